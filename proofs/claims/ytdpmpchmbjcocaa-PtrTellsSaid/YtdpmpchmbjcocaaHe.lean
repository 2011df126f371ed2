/-
  What Read tells.
-/
import Derived.Test.YtdpmpchmbjcocaaHb
import Derived.Test.YtdpmpchmbjcocaaHc
import Derived.Test.YtdpmpchmbjcocaaPg
import Derived.Test.YtdpmpchmbjcocaaZo
import Derived.Deep.LoopGhost
namespace Go.Proofs.Ytdpmpchmbjcocaa
open Go.RowKit BigFrame

/-- what the loop has told so far: k pointers, in block G; the result's block, the body's row -/
def PrAt (m : List Nat) (k G g2 g1 : Nat) (w wr : World) : Prop :=
  Vi wr 22 G (tlP m k ++ zz (12 - k)) ∧ Vi wr 22 g2 (zz 12) ∧ Row wr g1 m ∧ Below w.heap.size w wr ∧ g2 < g1 ∧ g1 < G ∧ w.heap.size ≤ g2
def PrRel (m : List Nat) (G g2 g1 : Nat) (w : World) (i : Value) (wr : World) : Prop := ∃ k : Nat, k ≤ 12 ∧ i = .int .i64 k ∧ PrAt m k G g2 g1 w wr
theorem PrAt.on {m : List Nat} {k G g2 g1 : Nat} {w wr wx : World} (h : PrAt m k G g2 g1 w wr) (hb : Below wr.heap.size wr wx) : PrAt m k G g2 g1 w wx := by
  obtain ⟨h1, h2, h3, h4, h5⟩ := h
  exact ⟨h1.on' hb, h2.on' hb, h3.on hb h3.lt, below_two h4 hb, h5⟩
theorem tlP_set (m : List Nat) {k : Nat} (hk : k < 12) (x : Int) (hx : pt m k = x) : (tlP m k ++ zz (12 - k)).set k x = tlP m (k + 1) ++ zz (12 - (k + 1)) := by
  have hl := tlP_length m k
  rw [List.set_append_right _ _ (by omega), hl, Nat.sub_self, tlP, hx, List.append_assoc]
  congr 1
  obtain ⟨j, hj⟩ : ∃ j, 12 - k = j + 1 := ⟨11 - k, by omega⟩
  rw [hj, show 12 - (k + 1) = j by omega]
  rfl
theorem tlP_len12 (m : List Nat) {k : Nat} (hk : k ≤ 12) : (tlP m k ++ zz (12 - k)).length = 12 := by rw [List.length_append, tlP_length, zz_length]; omega
theorem PrAt.put {m : List Nat} {k G g2 g1 : Nat} {w wr : World} (h : PrAt m k G g2 g1 w wr) (hk : k < 12) (x : Int) (hx : pt m k = x) : PrAt m (k + 1) G g2 g1 w (wr.setCell ⟨G, k, none⟩ (.int .i64 x)) := by
  obtain ⟨h1, h2, h3, h4, h5, h6, h7⟩ := h
  have ho := (Oth.refl G wr).setCell (p := k) (.int .i64 x)
  have hp := Vi.set h1 k x
  rw [tlP_set m hk x hx] at hp
  exact ⟨hp, h2.oth ho (by omega), h3.oth ho (by omega), below_set h4 (by omega) _ _, h5, h6, h7⟩

attribute [local go_sem ↓] ldT_of stT_of bdT_of
set_option maxRecDepth 100000 in
set_option maxHeartbeats 1000000 in
theorem ptrRead_bad (a : Option Addr) (cap n : Nat) (l : List Nat) (w : World) (hn : l.length = n) (hk : kindOf l ≠ 80) (ho : Octs l) (hc : n ≤ cap) (hx : BAt w a l) :
    Calls Try.prog 9 #[.slice a n cap] w (Tells (readPV l) w) := by
  have hv := Lib.hid (show readPV l = .tuple #[av (zz 12), .int .i64 3] by unfold readPV; rw [readP_no (fineP_kind hk)])
  have hx' := Lib.hid hx
  have ho' := Lib.hid ho
  have hn' := Lib.hid hn
  have hk' := Lib.hid hk
  have hbd := run_bd0T
  obtain ⟨Z, hZ⟩ : ∃ Z, zz 12 = Z := ⟨_, rfl⟩
  have hZl := Lib.hid (show Z.length = 12 by rw [← hZ]; rfl)
  rw [hZ] at hbd hv
  have hZ' := Lib.hid hZ
  unfold av at hbd
  clear hx ho hn hk hZ
  go_enter Try.func9, Try.ntmps9
  go_wp2_with (first
    | (refine wpList_alloc_tw rfl rfl ?_; intro g1 w1 hv1 hg1 hb1; rw [hZ'.out] at hv1; have hB1 := Lib.hid hb1; have hx1 := Lib.hid (hx'.out.on hb1 (Nat.le_refl _)); clear hb1)
    | (go_at_call 21; refine (open_bad 80 (kindOf l) _ _ n l _ hn'.out rfl (.inr hk'.out) ho'.out hc hx1.out).mono ?_; rintro e w2 ⟨rfl, m, rfl⟩; have hst := run_stT (w := w1.drewN m) hZl.out (hv1.out.drew.there (o := 0) (n := 12) (by rw [hZl.out]; omega)); unfold av at hst))
  refine bodyPost_ret (tw_ret rfl rfl ((hv1.out.drew (m := m)).over (m := Z) rfl) hZl.out) rfl ⟨by rw [hv.out]; rfl, below_setCells (below_two hB1.out (below_drewN w1 m)) hg1 0 _⟩
set_option maxRecDepth 100000 in
set_option maxHeartbeats 2000000 in
theorem ptrRead_good (a : Option Addr) (cap n : Nat) (l : List Nat) (w : World) (hn : l.length = n) (hk : kindOf l = 80) (ho : Octs l) (hc : n ≤ cap) (hx : BAt w a l) :
    Calls Try.prog 9 #[.slice a n cap] w (Tells (readPV l) w) := by
  obtain ⟨m, hme⟩ : ∃ m, m = bodyOf l := ⟨_, rfl⟩
  have hml := Lib.hid (show m.length = 123 by rw [hme]; exact bodyOf_length (kindOf_len (by omega)))
  have hmo := Lib.hid (show Octs m by rw [hme]; exact (ho.drop 1).take 123)
  obtain ⟨Z, hZ⟩ : ∃ Z, zz 12 = Z := ⟨_, rfl⟩
  have hZl := Lib.hid (show Z.length = 12 by rw [← hZ]; rfl)
  have hno := Lib.hid (show blanked (m.drop 24) = false → readPV l = .tuple #[av Z, .int .i64 3] from fun h => by unfold readPV; rw [readP_no (by rw [fineP_blank hk, ← hme]; exact h), hZ])
  have hyes := Lib.hid (show blanked (m.drop 24) = true → readPV l = .tuple #[av (tlP m 12), .int .i64 0] from fun h => by unfold readPV; rw [readP_yes (by rw [fineP_blank hk, ← hme]; exact h), ← hme])
  have hme' := Lib.hid hme
  have hx' := Lib.hid hx
  have ho' := Lib.hid ho
  have hn' := Lib.hid hn
  have hk' := Lib.hid hk
  have hZ' := Lib.hid hZ
  have hbd := run_bd0T
  rw [hZ] at hbd
  unfold av at hbd
  obtain ⟨V, hV⟩ : ∃ V, readPV l = V := ⟨_, rfl⟩
  rw [hV] at hno hyes ⊢
  have hl24 := Lib.hid (show (m.drop 24).length = 99 by rw [List.length_drop, hml.out])
  clear hx ho hn hk hZ hme hV
  go_enter Try.func9, Try.ntmps9
  have tk0 : True := trivial
  cases hbl0 : blanked (m.drop 24)
  · have hbl := Lib.hid hbl0
    have hV := Lib.hid (hno.out hbl0)
    clear hbl0
    go_wp2_with (first
      | (clear tk0; refine wpList_alloc_tw rfl rfl ?_; intro g2 w1 hv1 hg2 hb1; have hB1 := Lib.hid hb1; have hx1 := Lib.hid (hx'.out.on hb1 (Nat.le_refl _)); clear hb1)
      | (go_at_call 21; refine (open_good 80 _ _ n l _ hn'.out (by decide) hk'.out ho'.out hc hx1.out).mono ?_; rintro e w2 ⟨g1, rfl, hg1, hr1, hb2⟩; rw [← hme'.out] at hr1; have V2 := Lib.hid (hv1.out.on' hb2); have B2 := Lib.hid (below_two hB1.out hb2); have hx24 := Lib.hid (show BAt w2 (some ⟨g1, 24, none⟩) (m.drop 24) by
            have := hr1.bat.sub 24 99
            rwa [Nat.zero_add, List.take_of_length_le (by rw [hl24.out]; omega)] at this); have hst2 := run_stT hZl.out (V2.out.there (o := 0) (n := 12) (by rw [zz_length]; omega)); unfold av at hst2; clear hb2 hr1)
      | (go_at_call 22; refine (blank_any _ 99 99 (m.drop 24) _ hl24.out (by decide) hx24.out).mono ?_; rw [hbl.out]; rintro e w5 ⟨rfl, rfl⟩))
    refine bodyPost_ret (tw_ret rfl rfl (V2.out.over (m := Z) (by rw [hZl.out, zz_length])) hZl.out) rfl ⟨by rw [hV.out]; rfl, below_setCells B2.out hg2 0 _⟩
  · have hbl := Lib.hid hbl0
    have hV := Lib.hid (hyes.out hbl0)
    clear hbl0
    go_wp2_with (first
      | (clear tk0; refine wpList_alloc_tw rfl rfl ?_; intro g2 w1 hv1 hg2 hb1; have hB1 := Lib.hid hb1; have hx1 := Lib.hid (hx'.out.on hb1 (Nat.le_refl _)); clear hb1)
      | (go_at_call 21; refine (open_good 80 _ _ n l _ hn'.out (by decide) hk'.out ho'.out hc hx1.out).mono ?_; rintro e w2 ⟨g1, rfl, hg1, hr1, hb2⟩; rw [← hme'.out] at hr1; have R2 := Lib.hid hr1; have V2 := Lib.hid (hv1.out.on' hb2); have B2 := Lib.hid (below_two hB1.out hb2); have h21 := Lib.hid (Nat.lt_of_lt_of_le hv1.out.lt hg1); have hx24 := Lib.hid (show BAt w2 (some ⟨g1, 24, none⟩) (m.drop 24) by
            have := hr1.bat.sub 24 99
            rwa [Nat.zero_add, List.take_of_length_le (by rw [hl24.out]; omega)] at this); clear hb2 hr1)
      | (go_at_call 22; refine (blank_any _ 99 99 (m.drop 24) _ hl24.out (by decide) hx24.out).mono ?_; rw [hbl.out]; rintro e w5 ⟨rfl, rfl⟩)
      | (refine wpList_alloc_tw rfl rfl ?_; intro G w3 hv3 hG3 hb3; have S0 := Lib.hid (show PrAt m 0 G g2 g1 w w3 from ⟨hv3.out, V2.out.on' hb3, R2.out.on hb3 R2.out.lt, below_two B2.out hb3, h21.out, Nat.lt_of_lt_of_le R2.out.lt hG3, hg2⟩); clear hb3))
    go_loopw [22] (fun i wr => PrRel m G g2 g1 w i wr) (fun i _ => 12 - (intOf i).toNat)
    case atStart => exact ⟨0, by omega, rfl, S0.out⟩
    case round =>
      obtain ⟨k, hk4, rfl, hS0⟩ := hrel
      have S := Lib.hid hS0
      clear hS0
      by_cases hlt : k < 12
      · obtain ⟨x, hxe⟩ : ∃ x, pt m k = x := ⟨_, rfl⟩
        have hx := Lib.hid hxe
        have c1 := S.out.1.cell (k := k) (by rw [tlP_len12 m hk4]; omega)
        have f1 := S.out.1.frozen k
        have hget := Lib.hid (show BAt wr (some ⟨g1, k * 2, none⟩) ((m.drop (k * 2)).take 2) by have := S.out.2.2.1.bat.sub (k * 2) 2; rwa [Nat.zero_add] at this)
        have hpt := Lib.hid (show ((rdN ((m.drop (k * 2)).take 2) : Nat) : Int) = x from hxe)
        have k0 : (0 : Int) ≤ (k : Int) := by omega
        have k4 : (k : Int) < 12 := by omega
        clear hxe
        go_wp2_with (first
          | (go_at_call 18; refine (pointer_any g1 0 _ _ k _ (by omega) (by omega)).mono ?_; rintro e w4 ⟨⟨c, hc2, rfl⟩, rfl⟩; rw [Nat.zero_add])
          | (go_at_call 23; refine (get_any _ _ 2 ((m.drop (k * 2)).take 2) _ (by have := hml.out; rw [List.length_take, List.length_drop]; omega) ((hmo.out.drop _).take _) (by omega) hget.out).mono ?_; rw [hpt.out]; rintro e w6 ⟨rfl, rfl⟩))
        exact ⟨⟨k + 1, by omega, by go_num, S.out.put hlt x hx.out⟩, by simp [intOf]; omega⟩
      · obtain rfl : k = 12 := by omega
        obtain ⟨F, hF⟩ : ∃ F, tlP m 12 = F := ⟨_, rfl⟩
        have hFl := Lib.hid (show F.length = 12 by rw [← hF]; exact tlP_length m 12)
        rw [hF] at hV
        have hSV := S.out.1
        have e4 : tlP m 12 ++ zz (12 - 12) = F := by rw [← hF]; exact List.append_nil _
        rw [e4] at hSV
        have hSF := Lib.hid hSV
        clear hF hSV e4
        have hld2 := run_ldT hSF.out.whole hFl.out
        have hst2 := run_stT hFl.out (S.out.2.1.there (o := 0) (n := 12) (by rw [zz_length]; omega))
        unfold av at hld2 hst2
        go_wp2_with fail
        refine bodyPost_ret (tw_ret rfl rfl (S.out.2.1.over (m := F) (by rw [hFl.out, zz_length])) hFl.out) rfl ⟨by rw [hV.out]; rfl, below_setCells S.out.2.2.2.1 S.out.2.2.2.2.2.2 0 _⟩
theorem ptrRead_any (a : Option Addr) (cap n : Nat) (l : List Nat) (w : World) (hn : l.length = n) (ho : Octs l) (hc : n ≤ cap) (hx : BAt w a l) :
    Calls Try.prog 9 #[.slice a n cap] w (Tells (readPV l) w) := by
  by_cases hk : kindOf l = 80
  · exact ptrRead_good a cap n l w hn hk ho hc hx
  · exact ptrRead_bad a cap n l w hn hk ho hc hx
end Go.Proofs.Ytdpmpchmbjcocaa
