/-
  What Read tells.
-/
import Derived.Test.YtfnhngnbaigccaaJh
import Derived.Test.YtfnhngnbaigccaaZo
namespace Go.Proofs.Ytfnhngnbaigccaa
open Go.RowKit BigFrame

theorem zero_four (w : World) : (zeroValue 25).run Try.prog w = .ok (av (zz 44)) w := (zero_of_info Try.infoFour).1 w
theorem wpList_alloc_four {w : World} {ops : Array Oper} {rest : List Oper} {o : Oper} {a : Act} {Q : Exit → Act → World → Prop} (hgd : o.guard = none) (ho : o.op = .alloc 25)
    (h : ∀ g w1, Hid (Vi w1 25 g (zz 44)) → w.heap.size ≤ g → Below w.heap.size w w1 → wpList Try.prog ops Q rest (a.put o.dst (.pointer (some ⟨g, 0, none⟩))) w1) : wpList Try.prog ops Q (o :: rest) a w := by
  refine wpList_plain hgd fun K hK => ?_
  have hz := zero_four w
  unfold Oper.wp
  simp [execOp, ho, Instr.alloc, Sem.run_bind, hz, newVar, Value.cells, av, Result.andThen]
  exact hK _ _ (h _ _ (heap_alloc_new w _) (Nat.le_refl _) ((Below.refl _ _).alloc (Nat.le_refl _) _))
/-- the results are four that lie in a block, and one more -/
theorem four_ret {fn : Func} {p u : Tmp} (h : fn.results = #[.cell p 25, .tmp u]) {tmps : Array Value} {w : World} {a : Nat} {L : List Int} (hp : tmps.getD p undef = .pointer (some ⟨a, 0, none⟩)) (hV : Vi w 25 a L) (hL : L.length = 44) :
    (results fn tmps).run Try.prog w = .ok (.tuple #[av L, tmps.getD u undef]) w := by
  have hp' : tmps[p]?.getD undef = .pointer (some ⟨a, 0, none⟩) := by simpa using hp
  simp [results, h, hp', asAddr, run_loadVar_row w a _ 25 _ _ _ hV Try.underlying25 rfl (by rw [Try.sizeFour]; simp [iv_length, hL]), av]
def readV (l : List Nat) : Value := .tuple #[av (readN l).1, .int .i64 (readN l).2]

/-- what the loop has told so far: k inodes, in block G; the result's block, the body's row -/
def ReAt (m : List Nat) (k G g2 g1 : Nat) (w wr : World) : Prop :=
  Vi wr 25 G (toldN m k ++ zz (44 - k * 11)) ∧ Vi wr 25 g2 (zz 44) ∧ Row wr g1 m ∧ Below w.heap.size w wr ∧ g2 < g1 ∧ g1 < G ∧ w.heap.size ≤ g2
def ReRel (m : List Nat) (G g2 g1 : Nat) (w : World) (i : Value) (wr : World) : Prop := ∃ k : Nat, k ≤ 4 ∧ i = .int .i64 k ∧ (∀ j, j < k → mayI (toldI ((m.drop (j * 23)).take 23)) = true) ∧ ReAt m k G g2 g1 w wr
theorem ReAt.on {m : List Nat} {k G g2 g1 : Nat} {w wr wx : World} (h : ReAt m k G g2 g1 w wr) (hb : Below wr.heap.size wr wx) : ReAt m k G g2 g1 w wx := by
  obtain ⟨h1, h2, h3, h4, h5⟩ := h
  exact ⟨h1.on' hb, h2.on' hb, h3.on hb h3.lt, below_two h4 hb, h5⟩
theorem ReAt.put {m : List Nat} {k G g2 g1 : Nat} {w wr : World} (h : ReAt m k G g2 g1 w wr) (hk : k < 4) (T : List Int) (hT : toldI ((m.drop (k * 23)).take 23) = T) : ReAt m (k + 1) G g2 g1 w (wr.setCells G (k * 11) (iv T)) := by
  obtain ⟨h1, h2, h3, h4, h5, h6, h7⟩ := h
  have hTl : T.length = 11 := by rw [← hT]; exact toldI_length _
  have ho := Oth.setCells (Oth.refl G wr) (k * 11) (iv T)
  have hp := Vi.put T (k * 11) h1 (by rw [List.length_append, toldN_length, zz_length]; omega)
  have e : splice (toldN m k ++ zz (44 - k * 11)) (k * 11) T = toldN m (k + 1) ++ zz (44 - (k + 1) * 11) := by
    have hl := toldN_length m k
    unfold splice
    rw [List.take_append_of_le_length (by omega), List.take_of_length_le (by omega), toldN, hT, List.append_assoc]
    congr 2
    rw [List.drop_append, List.drop_of_length_le (by omega), List.nil_append, hTl, hl]
    unfold zz
    rw [List.drop_replicate]
    congr 1
    omega
  rw [e] at hp
  exact ⟨hp, h2.oth ho (by omega), h3.oth ho (by omega), below_setCells h4 (by omega) _ _, h5, h6, h7⟩
theorem ReAt.range {m : List Nat} {k G g2 g1 : Nat} {w wr : World} (h : ReAt m (k + 1) G g2 g1 w wr) (T : List Int) (hT : toldI ((m.drop (k * 23)).take 23) = T) : wr.rangeAt G (k * 11) (iv T) := by
  have hr := h.1.range (k * 11) 11
  have hl := toldN_length m k
  have hTl : T.length = 11 := by rw [← hT]; exact toldI_length _
  rw [toldN, hT, List.append_assoc, List.drop_append_of_le_length (by omega), List.drop_of_length_le (by omega), List.nil_append, List.take_append_of_le_length (by omega), List.take_of_length_le (by omega)] at hr
  exact hr
theorem fine4_no {m : List Nat} {k : Nat} (hk : k < 4) (h : mayI (toldI ((m.drop (k * 23)).take 23)) = false) : ¬ fine4 m = true := by
  intro hf
  have := (fine4_iff.1 hf).1 k hk
  rw [four_at m hk, h] at this
  cases this
theorem fine4_blank {m : List Nat} (hm : ∀ j, j < 4 → mayI (toldI ((m.drop (j * 23)).take 23)) = true) : fine4 m = blanked (m.drop 92) := by
  have h4 : may4 (four m) = true := may4_iff.2 fun k hk => by rw [four_at m hk]; exact hm k hk
  unfold fine4; rw [h4]; rfl

attribute [local go_sem ↓] ldI_of ldF_of stI_of stF_of bdF_of
set_option maxRecDepth 100000 in
set_option maxHeartbeats 1000000 in
theorem inoRead_bad (a : Option Addr) (cap n : Nat) (l : List Nat) (w : World) (hn : l.length = n) (hk : kindOf l ≠ 73) (ho : Octs l) (hc : n ≤ cap) (hx : BAt w a l) :
    Calls Try.prog 12 #[.slice a n cap] w (Tells (readV l) w) := by
  have hv := Lib.hid (show readV l = .tuple #[av (zz 44), .int .i64 3] by unfold readV; rw [readN_no (l := l) (fun h => hk h.1)])
  have hx' := Lib.hid hx
  have ho' := Lib.hid ho
  have hn' := Lib.hid hn
  have hk' := Lib.hid hk
  have hbd := run_bd0F
  obtain ⟨Z, hZ⟩ : ∃ Z, zz 44 = Z := ⟨_, rfl⟩
  have hZl := Lib.hid (show Z.length = 44 by rw [← hZ]; rfl)
  rw [hZ] at hbd hv
  have hZ' := Lib.hid hZ
  unfold av at hbd
  clear hx ho hn hk hZ
  go_enter Try.func12, Try.ntmps12
  go_wp2_with (first
    | (refine wpList_alloc_four rfl rfl ?_; intro g1 w1 hv1 hg1 hb1; rw [hZ'.out] at hv1; have hB1 := Lib.hid hb1; have hx1 := Lib.hid (hx'.out.on hb1 (Nat.le_refl _)); clear hb1)
    | (go_at_call 28; refine (open_bad 73 (kindOf l) _ _ n l _ hn'.out rfl (.inr hk'.out) ho'.out hc hx1.out).mono ?_; rintro e w2 ⟨rfl, m, rfl⟩; have hst := run_stF (w := w1.drewN m) hZl.out (hv1.out.drew.there (o := 0) (n := 44) (by rw [hZl.out]; omega)); unfold av at hst))
  refine bodyPost_ret (four_ret rfl rfl ((hv1.out.drew (m := m)).over (m := Z) rfl) hZl.out) rfl ⟨by rw [hv.out]; rfl, below_setCells (below_two hB1.out (below_drewN w1 m)) hg1 0 _⟩
set_option maxRecDepth 100000 in
set_option maxHeartbeats 2000000 in
theorem inoRead_good (a : Option Addr) (cap n : Nat) (l : List Nat) (w : World) (hn : l.length = n) (hk : kindOf l = 73) (ho : Octs l) (hc : n ≤ cap) (hx : BAt w a l) :
    Calls Try.prog 12 #[.slice a n cap] w (Tells (readV l) w) := by
  obtain ⟨m, hme⟩ : ∃ m, m = bodyOf l := ⟨_, rfl⟩
  have hml := Lib.hid (show m.length = 123 by rw [hme]; exact bodyOf_length (kindOf_len (by omega)))
  have hmo := Lib.hid (show Octs m by rw [hme]; exact (ho.drop 1).take 123)
  obtain ⟨Z, hZ⟩ : ∃ Z, zz 44 = Z := ⟨_, rfl⟩
  have hZl := Lib.hid (show Z.length = 44 by rw [← hZ]; rfl)
  have hno := Lib.hid (show ¬ fine4 m = true → readV l = .tuple #[av Z, .int .i64 3] from fun h => by unfold readV; rw [readN_no (l := l) (fun h2 => h (by rw [hme]; exact h2.2)), hZ])
  have hyes := Lib.hid (show fine4 m = true → readV l = .tuple #[av (four m), .int .i64 0] from fun h => by unfold readV; rw [readN_yes (l := l) hk (by rw [← hme]; exact h), ← hme])
  have hme' := Lib.hid hme
  have hx' := Lib.hid hx
  have ho' := Lib.hid ho
  have hn' := Lib.hid hn
  have hk' := Lib.hid hk
  have hZ' := Lib.hid hZ
  have hbd := run_bd0F
  rw [hZ] at hbd
  unfold av at hbd
  obtain ⟨V, hV⟩ : ∃ V, readV l = V := ⟨_, rfl⟩
  rw [hV] at hno hyes ⊢
  clear hx ho hn hk hZ hme hV
  go_enter Try.func12, Try.ntmps12
  have tk0 : True := trivial
  go_wp2_with (first
    | (clear tk0; refine wpList_alloc_four rfl rfl ?_; intro g2 w1 hv1 hg2 hb1; have hB1 := Lib.hid hb1; have hx1 := Lib.hid (hx'.out.on hb1 (Nat.le_refl _)); clear hb1)
    | (go_at_call 28; refine (open_good 73 _ _ n l _ hn'.out (by decide) hk'.out ho'.out hc hx1.out).mono ?_; rintro e w2 ⟨g1, rfl, hg1, hr1, hb2⟩; rw [← hme'.out] at hr1; have R2 := Lib.hid hr1; have V2 := Lib.hid (hv1.out.on' hb2); have B2 := Lib.hid (below_two hB1.out hb2); have h21 := Lib.hid (Nat.lt_of_lt_of_le hv1.out.lt hg1); clear hb2 hr1)
    | (refine wpList_alloc_four rfl rfl ?_; intro G w3 hv3 hG3 hb3; have S0 := Lib.hid (show ReAt m 0 G g2 g1 w w3 from ⟨hv3.out, V2.out.on' hb3, R2.out.on hb3 R2.out.lt, below_two B2.out hb3, h21.out, Nat.lt_of_lt_of_le R2.out.lt hG3, hg2⟩); clear hb3))
  go_loopw [17] (fun i wr => ReRel m G g2 g1 w i wr) (fun i _ => 4 - (intOf i).toNat)
  case atStart => exact ⟨0, by omega, rfl, fun j hj => by omega, S0.out⟩
  case round =>
    obtain ⟨k, hk4, rfl, hM0, hS0⟩ := hrel
    have hM := Lib.hid hM0
    have S := Lib.hid hS0
    clear hM0 hS0
    by_cases hlt : k < 4
    · obtain ⟨T, hTe⟩ : ∃ T, toldI ((m.drop (k * 23)).take 23) = T := ⟨_, rfl⟩
      have hT := Lib.hid hTe
      have hTl := Lib.hid (show T.length = 11 by rw [← hTe]; exact toldI_length _)
      clear hTe
      obtain ⟨q, hq⟩ : ∃ q, k * 23 = q := ⟨_, rfl⟩
      obtain ⟨r, hr⟩ : ∃ r, k + 1 = r := ⟨_, rfl⟩
      obtain ⟨s, hs2⟩ : ∃ s, r * 23 = s := ⟨_, rfl⟩
      have m1 : (k : Int) * 23 = (q : Int) := by omega
      have m2 : (k : Int) + 1 = (r : Int) := by omega
      have m3 : (r : Int) * 23 = (s : Int) := by omega
      have p1 : (0 : Int) ≤ (q : Int) := by omega
      have p2 : (q : Int) ≤ (s : Int) := by omega
      have p3 : (s : Int) ≤ (123 : Int) := by omega
      have p4 : ¬ 123 = q := by omega
      have p5 : s - q = 23 := by omega
      have hql := Lib.hid hq
      have hrl := Lib.hid hr
      have hq100 : 23 ≤ 123 - q := by omega
      clear hq hr hs2
      cases hm0 : mayI T
      · have hmT := Lib.hid hm0
        have hV := Lib.hid (hno.out (fine4_no hlt (by rw [hT.out]; exact hm0)))
        clear hm0
        go_wp2_with (first
          | (go_at_call 29; refine (told_any g1 q (123 - q) ((m.drop (k * 23)).take 23) _ (by have := hml.out; rw [List.length_take, List.length_drop]; omega) ((hmo.out.drop _).take _) hq100 (by have := S.out.2.2.1.bat.sub q 23; rw [hql.out]; rwa [Nat.zero_add] at this)).mono ?_; rw [hT.out]; unfold av; rintro e w4 ⟨rfl, hb4⟩; have S4 := Lib.hid (S.out.on hb4); clear hb4; have hst := run_stI hTl.out (S4.out.1.there (o := k * 11) (n := 11) (by rw [List.length_append, toldN_length, zz_length]; omega)); have S5 := Lib.hid (S4.out.put hlt T hT.out); have hld := run_ldI (S5.out.range T hT.out) hTl.out; unfold av at hst hld)
          | (go_at_call 19; refine (inoMay_is T false _ hTl.out hmT.out).mono ?_; rintro e w5 ⟨rfl, hb5⟩; have S6 := Lib.hid (S5.out.on hb5); clear hb5; have hst2 := run_stF hZl.out (S6.out.2.1.there (o := 0) (n := 44) (by rw [zz_length]; omega)); unfold av at hst2))
        refine bodyPost_ret (four_ret rfl rfl (S6.out.2.1.over (m := Z) (by rw [hZl.out, zz_length])) hZl.out) rfl ⟨by rw [hV.out]; rfl, below_setCells S6.out.2.2.2.1 S6.out.2.2.2.2.2.2 0 _⟩
      · have hmT := Lib.hid hm0
        clear hm0
        go_wp2_with (first
          | (go_at_call 29; refine (told_any g1 q (123 - q) ((m.drop (k * 23)).take 23) _ (by have := hml.out; rw [List.length_take, List.length_drop]; omega) ((hmo.out.drop _).take _) hq100 (by have := S.out.2.2.1.bat.sub q 23; rw [hql.out]; rwa [Nat.zero_add] at this)).mono ?_; rw [hT.out]; unfold av; rintro e w4 ⟨rfl, hb4⟩; have S4 := Lib.hid (S.out.on hb4); clear hb4; have hst := run_stI hTl.out (S4.out.1.there (o := k * 11) (n := 11) (by rw [List.length_append, toldN_length, zz_length]; omega)); have S5 := Lib.hid (S4.out.put hlt T hT.out); have hld := run_ldI (S5.out.range T hT.out) hTl.out; unfold av at hst hld)
          | (go_at_call 19; refine (inoMay_is T true _ hTl.out hmT.out).mono ?_; rintro e w5 ⟨rfl, hb5⟩; have S6 := Lib.hid (S5.out.on hb5); clear hb5))
        exact ⟨⟨k + 1, by omega, by have := hrl.out; go_num, fun j hj => by
          by_cases e : j = k
          · subst e; rw [hT.out]; exact hmT.out
          · exact hM.out j (by omega), S6.out⟩, by have := hrl.out; simp [intOf]; omega⟩
    · obtain rfl : k = 4 := by omega
      have hl92 := Lib.hid (show (m.drop 92).length = 31 by rw [List.length_drop, hml.out])
      have hx92 := Lib.hid (show BAt wr (some ⟨g1, 92, none⟩) (m.drop 92) by
        have := S.out.2.2.1.bat.sub 92 31
        rwa [Nat.zero_add, List.take_of_length_le (by rw [hl92.out]; omega)] at this)
      have hfb := Lib.hid (fine4_blank hM.out)
      cases hbl0 : blanked (m.drop 92)
      · have hbl := Lib.hid hbl0
        have hV := Lib.hid (hno.out (by rw [hfb.out, hbl0]; decide))
        clear hbl0
        have hst2 := run_stF hZl.out (S.out.2.1.there (o := 0) (n := 44) (by rw [zz_length]; omega))
        unfold av at hst2
        go_wp2_with (go_at_call 30; refine (blank_any _ 31 31 (m.drop 92) _ hl92.out (by decide) hx92.out).mono ?_; rw [hbl.out]; rintro e w5 ⟨rfl, rfl⟩)
        refine bodyPost_ret (four_ret rfl rfl (S.out.2.1.over (m := Z) (by rw [hZl.out, zz_length])) hZl.out) rfl ⟨by rw [hV.out]; rfl, below_setCells S.out.2.2.2.1 S.out.2.2.2.2.2.2 0 _⟩
      · have hbl := Lib.hid hbl0
        obtain ⟨F, hF⟩ : ∃ F, four m = F := ⟨_, rfl⟩
        have hFl := Lib.hid (show F.length = 44 by rw [← hF]; exact four_length m)
        have hV := Lib.hid (hyes.out (by rw [hfb.out, hbl0]))
        rw [hF] at hV
        have hSV := S.out.1
        have e4 : toldN m 4 ++ zz (44 - 4 * 11) = F := by rw [← hF]; exact List.append_nil _
        rw [e4] at hSV
        have hSF := Lib.hid hSV
        clear hbl0 hF hSV e4
        have hld2 := run_ldF hSF.out.whole hFl.out
        have hst2 := run_stF hFl.out (S.out.2.1.there (o := 0) (n := 44) (by rw [zz_length]; omega))
        unfold av at hld2 hst2
        go_wp2_with (go_at_call 30; refine (blank_any _ 31 31 (m.drop 92) _ hl92.out (by decide) hx92.out).mono ?_; rw [hbl.out]; rintro e w5 ⟨rfl, rfl⟩)
        refine bodyPost_ret (four_ret rfl rfl (S.out.2.1.over (m := F) (by rw [hFl.out, zz_length])) hFl.out) rfl ⟨by rw [hV.out]; rfl, below_setCells S.out.2.2.2.1 S.out.2.2.2.2.2.2 0 _⟩
theorem inoRead_any (a : Option Addr) (cap n : Nat) (l : List Nat) (w : World) (hn : l.length = n) (ho : Octs l) (hc : n ≤ cap) (hx : BAt w a l) :
    Calls Try.prog 12 #[.slice a n cap] w (Tells (readV l) w) := by
  by_cases hk : kindOf l = 73
  · exact inoRead_good a cap n l w hn hk ho hc hx
  · exact inoRead_bad a cap n l w hn hk ho hc hx
end Go.Proofs.Ytfnhngnbaigccaa
