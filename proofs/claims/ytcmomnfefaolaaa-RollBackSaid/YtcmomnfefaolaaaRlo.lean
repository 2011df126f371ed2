/-
  Diff.
-/
import Derived.Test.YtcmomnfefaolaaaRln
import Derived.Test.YtcmomnfefaolaaaAv
import Derived.Deep.DeepCutAuto
namespace Go.Proofs.Ytcmomnfefaolaaa
open Go.RowKit BigFrame
set_option maxRecDepth 100000
attribute [local go_sem ↓] ldK_of stK_of
set_option maxHeartbeats 4000000 in
theorem diff_c (s : Int) (v u : Value) (l m : List Nat) (w : World) (h0 : 0 ≤ s) (hv : SlB w v l) (hu : SlB w u m) :
    Calls Try.prog 11 #[.int .i64 s, v, u] w (GivesO (dlist s (sec l) (sec m) 0) w) := by
  have hV := Lib.hid hv
  have hU := Lib.hid hu
  clear hv hu
  obtain ⟨a, ha⟩ : ∃ a, sec l = a := ⟨_, rfl⟩
  obtain ⟨b, hb⟩ : ∃ b, sec m = b := ⟨_, rfl⟩
  have la := Lib.hid (show a.length = 128 by rw [← ha]; exact sec_length l)
  have lb := Lib.hid (show b.length = 128 by rw [← hb]; exact sec_length m)
  have hw1 := Lib.hid (fun w' (k : Below w.heap.size w w') => (by have h := whole_c v l w' (hV.out.on k); rw [ha] at h; exact h : Calls Try.prog 27 #[v] w' (Tells (kv a) w')))
  have hw2 := Lib.hid (fun w' (k : Below w.heap.size w w') => (by have h := whole_c u m w' (hU.out.on k); rw [hb] at h; exact h : Calls Try.prog 27 #[u] w' (Tells (kv b) w')))
  rw [ha, hb]
  clear ha hb
  have tk : True := trivial
  have tk2 : True := trivial
  go_enter Try.func11, Try.ntmps11
  go_wp2_with (first
    | (clear tk; go_at_call 27; refine (hw1.out _ (Below.refl _ _)).mono ?_; rintro e w1 ⟨rfl, hb1⟩; have B1 := Lib.hid hb1; clear hb1; unfold kv)
    | (go_at_call 27; refine (hw2.out _ B1.out).mono ?_; rintro e w2 ⟨rfl, hb2⟩; have B2 := Lib.hid (below_two B1.out hb2); clear hb2; unfold kv)
    | (clear tk2; refine wpList_alloc_blk rfl rfl ?_; intro g3 w3 hr3 hg3 hb3; have R3 := hr3; have G3 := Lib.hid (Nat.le_trans B2.out.size hg3); have B3 := Lib.hid (below_two B2.out hb3); clear hr3 hg3 hb3)
    | (refine wpList_alloc_blk rfl rfl ?_; intro g4 w4 hr4 hg4 hb4; have R3' := Lib.hid (R3.out.on hb4 R3.out.lt); have hst := run_stK R3'.out (zs_length 128) la.out; have R3b := Lib.hid (R3'.out.over (m := a) (by rw [la.out, zs_length])); have R4b := Lib.hid (RowT.oth hr4.out (Oth.setCells (Oth.refl g3 w4) 0 (bv a)) (by have := R3.out.lt; omega)); have hst2 := run_stK R4b.out (zs_length 128) lb.out; have R4c := Lib.hid (R4b.out.over (m := b) (by rw [lb.out, zs_length])); have R3c := Lib.hid (RowT.oth R3b.out (Oth.setCells (Oth.refl g4 (w4.setCells g3 0 (bv a))) 0 (bv b)) (by have := R3.out.lt; omega)); have G4 := Lib.hid (Nat.le_trans (Nat.le_trans G3.out (Nat.le_of_lt R3.out.lt)) hg4); have B4 := Lib.hid (below_setCells (below_setCells (below_two B3.out hb4) G3.out 0 (bv a)) G4.out 0 (bv b)); unfold kv at hst hst2; clear hg4 hb4 hr4))
  obtain ⟨w5, hw5⟩ : ∃ w5, (w4.setCells g3 0 (bv a)).setCells g4 0 (bv b) = w5 := ⟨_, rfl⟩
  have S0 : DfAt 48 w g3 g4 s a b 0 (.slice none 0 0) [] w5 := by
    rw [← hw5]
    exact ⟨RowO.nil _ _, (fun p hp => by cases hp), rfl, Nat.zero_le _, R3c.out, R4c.out, B4.out⟩
  rw [hw5]
  have S0' := Lib.hid S0
  clear hw5 S0 R3 R3' R3b R4b R4c R3c B4 B3 hst hst2
  go_loopg [9, 10, 11] 129 (fun q v9 v10 v11 wr => ∃ (i : Nat) (L : List Op2), i + q = 129 ∧ v10 = .int .i64 (i : Int) ∧ DfAt 48 w g3 g4 s a b i v9 L wr)
  case atStart => exact ⟨0, [], by omega, rfl, S0'.out⟩
  case round =>
    obtain ⟨i, L, hiq, rfl, hS⟩ := hrel
    have hS' := Lib.hid hS
    clear hS
    by_cases hlt : i < 128
    · have hd0 := dif_is (a := a) (b := b) (i := i) (by omega)
      obtain ⟨n, hn⟩ : ∃ n, dif a b i = n := ⟨_, rfl⟩
      rw [hn] at hd0
      have hd := Lib.hid hd0
      have hle := hd0.le
      have x1 : ¬ 128 = i := by omega
      have x2 : (i : Int) ≤ 128 := by omega
      have ta := Lib.hid (show BAt wr (some ⟨g3, i, none⟩) ((a.drop i).take (128 - i)) by have := hS'.out.ra.bat.sub i (128 - i); rwa [Nat.zero_add] at this)
      have tb := Lib.hid (show BAt wr (some ⟨g4, i, none⟩) ((b.drop i).take (128 - i)) by have := hS'.out.rb.bat.sub i (128 - i); rwa [Nat.zero_add] at this)
      have hun := Lib.hid (fun k => unlike_is g3 i g4 i (128 - i) (128 - i) (128 - i) n _ _ (wr.drewN k) (by rw [List.length_take, List.length_drop, la.out]; omega) (by rw [List.length_take, List.length_drop, lb.out]; omega) (by omega) ta.out.drew tb.out.drew (pre_dif la.out lb.out hd.out))
      clear hn hd0
      go_wp2_with fail
      go_big_quiet ((go_at_call 30; exact quiet_toldM (hun.out _)))
      have S8 := Lib.hid (hS'.out.on (below_drewN wr nq))
      cases n with
      | zero =>
        go_wp2_with fail
        go_roundg (129 - (i + 1))
        case measure => omega
        case rel => exact ⟨i + 1, L, by omega, by go_num, S8.out.skip hlt hd.out⟩
      | succ n =>
        have y0 : (0 : Int) ≤ (i : Int) + ((n : Int) + 1) := by omega
        have y1 : (i : Int) + ((n : Int) + 1) ≤ 128 := by omega
        have y2 : (i : Int) ≤ (i : Int) + ((n : Int) + 1) := by omega
        have y3 : ((i : Int) + ((n : Int) + 1)).toNat = i + (n + 1) := by omega
        have lx := Lib.hid (show ((b.drop i).take (n + 1)).length = n + 1 by rw [List.length_take, List.length_drop, lb.out]; omega)
        have tx := Lib.hid (show BAt (wr.drewN nq) (some ⟨g4, i, none⟩) ((b.drop i).take (n + 1)) by have := S8.out.rb.bat.sub i (n + 1); rwa [Nat.zero_add] at this)
        have hcl := Lib.hid (clone_c (.slice (some ⟨g4, i, none⟩) (n + 1) (128 - i)) ((b.drop i).take (n + 1)) (wr.drewN nq) ⟨_, _, by rw [lx.out], by rw [lx.out]; omega, tx.out, fun h => by cases h⟩ (by rw [lx.out]; omega))
        go_wp2_with (first
          | (go_at_call 31; refine hcl.out.mono ?_; rintro e w9 ⟨v9', rfl, ho9, hb9⟩; obtain ⟨a9, cap9, hv9, -⟩ := ho9.slice; rw [lx.out] at hv9; subst hv9; have O9 := Lib.hid ho9; have S9 := Lib.hid (S8.out.on hb9); clear ho9 hb9)
          | (at_builtin; refine wpList_append_ob rfl (.tmp 29) (.tmp 39) rfl w.heap.size u9 L rfl (S9.out.row.alloc _) ⟨w9.heap.size, 0, none⟩ 1 (⟨s, (i : Int), (b.drop i).take (n + 1)⟩, .slice a9 (n + 1) cap9) rfl (ob_news w9 _ _) rfl (by have := S9.out.few; omega) (by have := S9.out.bel.size; simp; omega) ?_; intro v10 w10 hr10 hg10))
        go_roundg (129 - (i + (n + 1) + 1))
        case measure => omega
        case rel =>
          refine ⟨i + (n + 1) + 1, L ++ [(⟨s, (i : Int), (b.drop i).take (n + 1)⟩, .slice a9 (n + 1) cap9)], by omega, by go_num, ?_⟩
          have hba := (Below.refl w9.heap.size w9).alloc (Nat.le_refl _) (.cells (oc ⟨s, (i : Int), (b.drop i).take (n + 1)⟩ (.slice a9 (n + 1) cap9)).toArray 37)
          exact (S9.out.on hba).more (by decide) hlt hd.out ((O9.out.on hba (Nat.le_refl _)).lower (by have := S8.out.bel.size; exact this)) hr10.out hg10.out
    · have hi : i = 128 ∨ i = 129 := by omega
      have hsd := hS'.out.said
      rw [dlist_end (by omega), List.append_nil] at hsd
      have hO := hS'.out.row.slo (fun p hp => (hS'.out.dat p hp).slb)
      rw [hsd] at hO
      have hO' := Lib.hid hO
      clear hO hsd
      go_wp2_with fail
      go_ret
      exact ⟨_, rfl, hO'.out, hS'.out.bel⟩
theorem diff_none (s : Int) (v u : Value) (w : World) (h0 : s < 0) : Calls Try.prog 11 #[.int .i64 s, v, u] w (GivesO [] w) := by
  go_enter Try.func11, Try.ntmps11
  go_wp2_with fail
  go_ret
  exact ⟨_, rfl, ⟨none, 0, rfl, Nat.le_refl _, .inl rfl, fun _ => rfl⟩, Below.refl _ _⟩
/-- what Diff tells -/
noncomputable def diffO (s : Int) (a b : List Nat) : List Ob := if s < 0 then [] else dlist s a b 0
theorem diff_u (s : Int) (v u : Value) (l m : List Nat) (w : World) (hv : SlB w v l) (hu : SlB w u m) :
    Calls Try.prog 11 #[.int .i64 s, v, u] w (GivesO (diffO s (sec l) (sec m)) w) := by
  unfold diffO
  by_cases h : s < 0
  · rw [if_pos h]; exact diff_none s v u w h
  · rw [if_neg h]; exact diff_c s v u l m w (by omega) hv hu
end Go.Proofs.Ytcmomnfefaolaaa
