/-
  Diff: the document's own.
-/
import Derived.Test.YtcmomnfefaolaaaRlo
namespace Go.Proofs.Ytcmomnfefaolaaa
open Go.RowKit BigFrame
set_option maxRecDepth 100000
set_option maxHeartbeats 4000000 in
theorem refDiff_c (s : Int) (v u : Value) (l m : List Nat) (w : World) (h0 : 0 ≤ s) (hv : SlB w v l) (hu : SlB w u m) :
    Calls Try.prog 17 #[.int .i64 s, v, u] w (GivesO (dlist s (sec l) (sec m) 0) w) := by
  have hV := Lib.hid hv
  have hU := Lib.hid hu
  clear hv hu
  obtain ⟨a, ha⟩ : ∃ a, sec l = a := ⟨_, rfl⟩
  obtain ⟨b, hb⟩ : ∃ b, sec m = b := ⟨_, rfl⟩
  have la := Lib.hid (show a.length = 128 by rw [← ha]; exact sec_length l)
  have lb := Lib.hid (show b.length = 128 by rw [← hb]; exact sec_length m)
  have hw1 := Lib.hid (fun w' (k : Below w.heap.size w w') => (by have h := sector_c v l w' (hV.out.on k); rw [ha] at h; exact h : Calls Try.prog 32 #[v] w' (GivesK a w')))
  have hw2 := Lib.hid (fun w' (k : Below w.heap.size w w') => (by have h := sector_c u m w' (hU.out.on k); rw [hb] at h; exact h : Calls Try.prog 32 #[u] w' (GivesK b w')))
  rw [ha, hb]
  clear ha hb
  have tk : True := trivial
  have z0 : decide (0 ≤ s) = true := decide_eq_true h0
  go_enter Try.func17, Try.ntmps17
  go_wp2_with (first
    | (clear tk; go_at_call 32; refine (hw1.out _ (Below.refl _ _)).mono ?_; rintro e w1 ⟨g3, rfl, hg3, hr3, hb1⟩; have R3 := Lib.hid hr3; have G3 := Lib.hid hg3; have B1 := Lib.hid hb1; clear hb1 hr3 hg3)
    | (go_at_call 32; refine (hw2.out _ B1.out).mono ?_; rintro e w2 ⟨g4, rfl, hg4, hr4, hb2⟩; have R3b := Lib.hid (R3.out.on hb2 R3.out.lt); have R4 := Lib.hid hr4; have G4 := Lib.hid hg4; have B2 := Lib.hid (below_two B1.out hb2); clear hb2 hr4 hg4))
  have S0' := Lib.hid (show DfAt 5 w g3 g4 s a b 0 (.slice none 0 0) [] w2 from ⟨RowO.nil _ _, (fun p hp => by cases hp), rfl, Nat.le_refl _, R3b.out, R4.out, B2.out⟩)
  clear R3 R3b R4 B1 B2
  go_loopg [9, 10, 11] 129 (fun q v9 v10 v11 wr => ∃ (i : Nat) (L : List Op2), i + q = 129 ∧ v10 = .int .i64 (i : Int) ∧ DfAt 5 w g3 g4 s a b i v9 L wr)
  case atStart => exact ⟨0, [], by omega, rfl, S0'.out⟩
  case round =>
    obtain ⟨i, L, hiq, rfl, hS⟩ := hrel
    have hS' := Lib.hid hS
    clear hS
    obtain ⟨wo, hwo⟩ : ∃ wo, wo = wr := ⟨_, rfl⟩
    subst hwo
    obtain ⟨go', hgo⟩ : ∃ go', go' = gk := ⟨_, rfl⟩
    subst hgo
    by_cases hlt : i < 128
    · have hd0 := dif_is (a := a) (b := b) (i := i) (by omega)
      obtain ⟨n, hn⟩ : ∃ n, dif a b i = n := ⟨_, rfl⟩
      rw [hn] at hd0
      have hd := Lib.hid hd0
      have hle := hd0.le
      clear hn hd0
      go_wp2_with fail
      go_loopg [11] (128 - i) (fun q v11 wx => ∃ k r : Nat, i ≤ k ∧ k + q = 128 ∧ k ≤ i + n ∧ v11 = .int .i64 (k : Int) ∧ wx = wo.drewN r)
      case atStart => exact ⟨i, 0, Nat.le_refl _, by omega, by omega, rfl, rfl⟩
      case round =>
        obtain ⟨k, r, hik, hkq, hkn, rfl, hwx⟩ := hrel
        have S8 := Lib.hid (show DfAt 5 w g3 g4 s a b i u9 L wr by rw [hwx]; exact hS'.out.on (below_drewN wo r))
        have hX := Lib.hid hwx
        clear hwx
        have hstop := hd.out.stop
        by_cases hend : k = i + n
        · have cmp : k < 128 → (((bz a k : Nat) : Int) != ((bz b k : Nat) : Int)) = false := fun h => by
            rcases hstop with e | e
            · omega
            · rw [bne_eq_false_iff_eq, hend, e]
          clear hstop
          have hE := Lib.hid hend
          clear hend
          have fin : Hid (∀ p, DfAt 5 w g3 g4 s a b i u9 L (wr.drewN p)) := Lib.hid (fun p => S8.out.on (below_drewN wr p))
          by_cases hk : k < 128
          · have t := cmp hk
            have x1 : (k : Int) < 128 := by omega
            have q1 := Row.cell (l := a) S8.out.ra (k := k) (by rw [la.out]; exact hk)
            have q2 := Row.cell (l := b) S8.out.rb (k := k) (by rw [lb.out]; exact hk)
            clear cmp
            go_wp2_with fail
            go_big_quiet (fail)
            have S9' := Lib.hid (fin.out nq)
            clear t q1 q2
            cases n with
            | zero =>
              obtain rfl : k = i := hE.out
              go_wp2_with fail
              go_roundg (129 - (k + 1))
              case measure => omega
              case rel => exact ⟨k + 1, L, by omega, by go_num, S9'.out.skip hlt hd.out⟩
            | succ n =>
              have y0 : (i : Int) < (k : Int) := by have := hE.out; omega
              have y1 : (k : Int) ≤ 128 := by omega
              have y2 : (i : Int) ≤ (k : Int) := by omega
              have y3 : i ≤ k := by omega
              have y4 : k ≤ 128 := by omega
              have x6 : ¬ 128 = i := by omega
              have lx := Lib.hid (show ((b.drop i).take (n + 1)).length = k - i by rw [List.length_take, List.length_drop, lb.out]; have := hE.out; omega)
              have tx := Lib.hid (show BAt (wr.drewN nq) (some ⟨g4, i, none⟩) ((b.drop i).take (n + 1)) by have := (Row.bat (l := b) S9'.out.rb).sub i (n + 1); rwa [Nat.zero_add] at this)
              go_wp2_with (first
                | (at_builtin; refine wpList_append_bytes rfl (.const (.slice none 0 0)) (.tmp 49) rfl w.heap.size (.slice none 0 0) [] rfl (OwnB.nil _ _) (some ⟨g4, i, none⟩) (k - i) (128 - i) ((b.drop i).take (n + 1)) rfl lx.out tx.out (fun h => by cases h) (by simp; omega) S9'.out.bel.size ?_; intro v9' w9 ho9 hg9 hb9; obtain ⟨a9, cap9, hv9, -⟩ := ho9.out.slice; rw [List.nil_append, lx.out] at hv9; subst hv9; have O9 := Lib.hid ho9.out; have S9 := Lib.hid (S9'.out.on (grownBy_below hg9 (Nat.le_refl _) (fun k e => by cases e))); clear ho9 hb9 hg9)
                | (at_builtin; refine wpList_append_ob rfl (.tmp 43) (.tmp 52) rfl w.heap.size u9 L rfl (S9.out.row.alloc _) ⟨w9.heap.size, 0, none⟩ 1 (⟨s, (i : Int), (b.drop i).take (n + 1)⟩, .slice a9 (k - i) cap9) rfl (ob_news w9 _ _) rfl (by have := S9.out.few; omega) (by have := S9.out.bel.size; simp; omega) ?_; intro v10 w10 hr10 hg10))
              go_roundg (129 - (k + 1))
              case measure => omega
              case rel =>
                refine ⟨i + (n + 1) + 1, L ++ [(⟨s, (i : Int), (b.drop i).take (n + 1)⟩, .slice a9 (k - i) cap9)], by have := hE.out; omega, by have := hE.out; go_num, ?_⟩
                have hba := (Below.refl w9.heap.size w9).alloc (Nat.le_refl _) (.cells (oc ⟨s, (i : Int), (b.drop i).take (n + 1)⟩ (.slice a9 (k - i) cap9)).toArray 37)
                exact (S9.out.on hba).more (by decide) hlt hd.out (O9.out.on hba (Nat.le_refl _)) hr10.out hg10.out
          · have x1 : decide ((k : Int) < 128) = false := decide_eq_false (by omega)
            clear cmp
            go_wp2_with fail
            go_big_quiet (fail)
            have S9' := Lib.hid (fin.out nq)
            cases n with
            | zero =>
              obtain rfl : k = i := hE.out
              go_wp2_with fail
              go_roundg (129 - (k + 1))
              case measure => omega
              case rel => exact ⟨k + 1, L, by omega, by go_num, S9'.out.skip hlt hd.out⟩
            | succ n =>
              have y0 : (i : Int) < (k : Int) := by have := hE.out; omega
              have y1 : (k : Int) ≤ 128 := by omega
              have y2 : (i : Int) ≤ (k : Int) := by omega
              have y3 : i ≤ k := by omega
              have y4 : k ≤ 128 := by omega
              have x6 : ¬ 128 = i := by omega
              have lx := Lib.hid (show ((b.drop i).take (n + 1)).length = k - i by rw [List.length_take, List.length_drop, lb.out]; have := hE.out; omega)
              have tx := Lib.hid (show BAt (wr.drewN nq) (some ⟨g4, i, none⟩) ((b.drop i).take (n + 1)) by have := (Row.bat (l := b) S9'.out.rb).sub i (n + 1); rwa [Nat.zero_add] at this)
              go_wp2_with (first
                | (at_builtin; refine wpList_append_bytes rfl (.const (.slice none 0 0)) (.tmp 49) rfl w.heap.size (.slice none 0 0) [] rfl (OwnB.nil _ _) (some ⟨g4, i, none⟩) (k - i) (128 - i) ((b.drop i).take (n + 1)) rfl lx.out tx.out (fun h => by cases h) (by simp; omega) S9'.out.bel.size ?_; intro v9' w9 ho9 hg9 hb9; obtain ⟨a9, cap9, hv9, -⟩ := ho9.out.slice; rw [List.nil_append, lx.out] at hv9; subst hv9; have O9 := Lib.hid ho9.out; have S9 := Lib.hid (S9'.out.on (grownBy_below hg9 (Nat.le_refl _) (fun k e => by cases e))); clear ho9 hb9 hg9)
                | (at_builtin; refine wpList_append_ob rfl (.tmp 43) (.tmp 52) rfl w.heap.size u9 L rfl (S9.out.row.alloc _) ⟨w9.heap.size, 0, none⟩ 1 (⟨s, (i : Int), (b.drop i).take (n + 1)⟩, .slice a9 (k - i) cap9) rfl (ob_news w9 _ _) rfl (by have := S9.out.few; omega) (by have := S9.out.bel.size; simp; omega) ?_; intro v10 w10 hr10 hg10))
              go_roundg (129 - (k + 1))
              case measure => omega
              case rel =>
                refine ⟨i + (n + 1) + 1, L ++ [(⟨s, (i : Int), (b.drop i).take (n + 1)⟩, .slice a9 (k - i) cap9)], by have := hE.out; omega, by have := hE.out; go_num, ?_⟩
                have hba := (Below.refl w9.heap.size w9).alloc (Nat.le_refl _) (.cells (oc ⟨s, (i : Int), (b.drop i).take (n + 1)⟩ (.slice a9 (k - i) cap9)).toArray 37)
                exact (S9.out.on hba).more (by decide) hlt hd.out (O9.out.on hba (Nat.le_refl _)) hr10.out hg10.out
        · have hk : k < 128 := by omega
          have x1 : (k : Int) < 128 := by omega
          have q1 := Row.cell (l := a) S8.out.ra (k := k) (by rw [la.out]; exact hk)
          have q2 := Row.cell (l := b) S8.out.rb (k := k) (by rw [lb.out]; exact hk)
          have hne := hd.out.ne (k - i) (by omega)
          rw [show i + (k - i) = k by omega] at hne
          have t : (((bz a k : Nat) : Int) != ((bz b k : Nat) : Int)) = true := by rw [bne_iff_ne]; omega
          clear hne hstop
          go_wp2_with fail
          go_big_quiet (fail)
          go_wp2_with fail
          go_roundg (128 - (k + 1))
          case measure => omega
          case rel => exact ⟨k + 1, _, by omega, by omega, by omega, by go_num, by rw [hX.out, World.drewN_drewN]⟩
    · have hi : i = 128 ∨ i = 129 := by omega
      have hsd := hS'.out.said
      rw [dlist_end (by omega), List.append_nil] at hsd
      have hO := hS'.out.row.slo (fun p hp => (hS'.out.dat p hp).slb)
      rw [hsd] at hO
      have hO' := Lib.hid hO
      clear hO hsd
      go_wp2_with fail
      go_ret
      exact ⟨_, rfl, hO'.out, hS'.out.bel⟩
set_option maxHeartbeats 1000000 in
theorem refDiff_none (s : Int) (v u : Value) (l m : List Nat) (w : World) (h0 : s < 0) (hv : SlB w v l) (hu : SlB w u m) : Calls Try.prog 17 #[.int .i64 s, v, u] w (GivesO [] w) := by
  have hw1 := Lib.hid (sector_c v l w hv)
  have hw2 := Lib.hid (fun w' (k : Below w.heap.size w w') => sector_c u m w' (hu.on k))
  clear hv hu
  have tk : True := trivial
  have z0 : decide (0 ≤ s) = false := decide_eq_false (by omega)
  go_enter Try.func17, Try.ntmps17
  go_wp2_with (first
    | (clear tk; go_at_call 32; refine hw1.out.mono ?_; rintro e w1 ⟨g3, rfl, hg3, hr3, hb1⟩; have B1 := Lib.hid hb1; clear hb1 hr3 hg3)
    | (go_at_call 32; refine (hw2.out _ B1.out).mono ?_; rintro e w2 ⟨g4, rfl, hg4, hr4, hb2⟩; have B2 := Lib.hid (below_two B1.out hb2); clear hb2 hr4 hg4))
  refine wp_loop_rounds 1 ?_
  rw [rounds_succ]
  go_wp2_with fail
  go_ret
  exact ⟨_, rfl, ⟨none, 0, rfl, Nat.le_refl _, .inl rfl, fun _ => rfl⟩, B2.out⟩
theorem refDiff_u (s : Int) (v u : Value) (l m : List Nat) (w : World) (hv : SlB w v l) (hu : SlB w u m) :
    Calls Try.prog 17 #[.int .i64 s, v, u] w (GivesO (diffO s (sec l) (sec m)) w) := by
  unfold diffO
  by_cases h : s < 0
  · rw [if_pos h]; exact refDiff_none s v u l m w h hv hu
  · rw [if_neg h]; exact refDiff_c s v u l m w (by omega) hv hu
end Go.Proofs.Ytcmomnfefaolaaa
