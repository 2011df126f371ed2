/-
  The stable sort of the library: insertion.
-/
import Derived.Test.YtdnemlanahlnpaaDoorCmpF
namespace Go.Proofs.YtdnemlanahlnpaaDoor
open Go.RowKit Fl

/-- ahead of: by the keys, then by the places themselves -/
def ltk (K : Int → Int) (x y : Int) : Prop := K x < K y ∨ (K x = K y ∧ x < y)
def LS (K : Int → Int) (D : Nat → Int) (a b : Nat) : Prop := ∀ p q, a ≤ p → p < q → q < b → ltk K (D p) (D q)
def Stab (K : Int → Int) (D : Nat → Int) (a b : Nat) : Prop := ∀ p q, a ≤ p → p < q → q < b → K (D p) = K (D q) → D p < D q
/-- what is from a on, below b, has been moved about there -/
def Moves (a b : Nat) (D D' : Nat → Int) : Prop := (∀ p, p < a ∨ b ≤ p → D' p = D p) ∧ ∀ p, a ≤ p → p < b → ∃ q, a ≤ q ∧ q < b ∧ D' p = D q
theorem Moves.refl (a b : Nat) (D : Nat → Int) : Moves a b D D := ⟨fun _ _ => rfl, fun p h1 h2 => ⟨p, h1, h2, rfl⟩⟩
theorem Moves.trans {a b : Nat} {D E F : Nat → Int} (h : Moves a b D E) (k : Moves a b E F) : Moves a b D F :=
  ⟨fun p hp => (k.1 p hp).trans (h.1 p hp), fun p h1 h2 => by
    obtain ⟨q, q1, q2, e⟩ := k.2 p h1 h2
    obtain ⟨r, r1, r2, e2⟩ := h.2 q q1 q2
    exact ⟨r, r1, r2, e.trans e2⟩⟩
theorem Moves.wider {a b a' b' : Nat} {D E : Nat → Int} (h : Moves a b D E) (h1 : a' ≤ a) (h2 : b ≤ b') : Moves a' b' D E :=
  ⟨fun p hp => h.1 p (by omega), fun p p1 p2 => by
    by_cases hp : a ≤ p ∧ p < b
    · obtain ⟨q, q1, q2, e⟩ := h.2 p hp.1 hp.2
      exact ⟨q, by omega, by omega, e⟩
    · exact ⟨p, p1, p2, h.1 p (by omega)⟩⟩
theorem Moves.rng {a b n : Nat} {N : Int} {D E : Nat → Int} (h : Moves a b D E) (hb : b ≤ n) (hr : ∀ p, p < n → 0 ≤ D p ∧ D p < N) : ∀ p, p < n → 0 ≤ E p ∧ E p < N := by
  intro p hp
  by_cases h1 : a ≤ p ∧ p < b
  · obtain ⟨q, _, q2, e⟩ := h.2 p h1.1 h1.2
    rw [e]; exact hr q (by omega)
  · rw [h.1 p (by omega)]; exact hr p hp
/-- what is sorted in part stays as it should ahead of the rest -/
theorem Stab.moved {K : Int → Int} {a c b : Nat} {D E : Nat → Int} (h : Stab K D a b) (hm : Moves a c D E) (hs : LS K E a c) : Stab K E a b := by
  intro p q h1 h2 h3 hk
  by_cases hq : q < c
  · rcases hs p q h1 h2 hq with h4 | h4
    · omega
    · exact h4.2
  · have eq := hm.1 q (by omega)
    by_cases hp : p < c
    · obtain ⟨r, r1, r2, e⟩ := hm.2 p h1 hp
      rw [eq, e] at hk ⊢
      exact h r q r1 (by omega) h3 hk
    · have ep := hm.1 p (by omega)
      rw [eq, ep] at hk ⊢
      exact h p q h1 h2 h3 hk

/-- the i-th one brought ahead to place j -/
def insAt (C : Nat → Int) (i j p : Nat) : Int := if p = j then C i else if j < p ∧ p ≤ i then C (p - 1) else C p
theorem insAt_moves {C : Nat → Int} {a i j : Nat} (h1 : a ≤ j) (h2 : j ≤ i) : Moves a (i + 1) C (insAt C i j) := by
  constructor
  · intro p hp
    unfold insAt
    rw [if_neg (by omega), if_neg (by omega)]
  · intro p p1 p2
    unfold insAt
    by_cases e : p = j
    · rw [if_pos e]; exact ⟨i, by omega, by omega, rfl⟩
    · rw [if_neg e]
      by_cases e2 : j < p ∧ p ≤ i
      · rw [if_pos e2]; exact ⟨p - 1, by omega, by omega, rfl⟩
      · rw [if_neg e2]; exact ⟨p, p1, p2, rfl⟩
theorem insAt_sorted {K : Int → Int} {C : Nat → Int} {a i j b : Nat} (h1 : a ≤ j) (h2 : j ≤ i) (hi : i < b) (hs : LS K C a i) (ht : Stab K C a b) (hp : ∀ q, j ≤ q → q < i → K (C i) < K (C q))
    (he : j = a ∨ ¬ K (C i) < K (C (j - 1))) : LS K (insAt C i j) a (i + 1) := by
  have below : ∀ q, a ≤ q → q < j → ltk K (C q) (C i) := by
    intro q q1 q2
    rcases he with he | he
    · omega
    · have h3 : K (C q) ≤ K (C i) := by
        by_cases e : q = j - 1
        · subst e; omega
        · rcases hs q (j - 1) q1 (by omega) (by omega) with h | h <;> omega
      by_cases hk : K (C q) = K (C i)
      · exact .inr ⟨hk, ht q i q1 (by omega) hi hk⟩
      · exact .inl (by omega)
  intro p q p1 p2 p3
  unfold insAt
  by_cases e1 : p = j
  · rw [if_pos e1, if_neg (by omega), if_pos (by omega)]
    exact .inl (hp (q - 1) (by omega) (by omega))
  · rw [if_neg e1]
    by_cases e2 : q = j
    · rw [if_neg (by omega), if_pos e2]
      exact below p p1 (by omega)
    · rw [if_neg e2]
      by_cases e3 : j < p ∧ p ≤ i
      · rw [if_pos e3, if_pos (by omega)]
        exact hs (p - 1) (q - 1) (by omega) (by omega) (by omega)
      · rw [if_neg e3]
        by_cases e4 : j < q ∧ q ≤ i
        · rw [if_pos e4]
          by_cases e5 : p = q - 1
          · omega
          · exact hs p (q - 1) p1 (by omega) (by omega)
        · rw [if_neg e4]
          exact hs p q p1 p2 (by omega)

theorem insAt_step {C : Nat → Int} {i j : Nat} (hj : 0 < j) (hji : j ≤ i) (p : Nat) : insAt C i (j - 1) p = if p = j - 1 then C i else if p = j then C (j - 1) else insAt C i j p := by
  unfold insAt
  repeat' split
  all_goals first | omega | rfl | (congr 1; omega)

def InsIn (g n a i : Nat) (xs : List Nat) (C : Nat → Int) (w : World) (j : Value) (wr : World) : Prop :=
  ∃ k : Nat, a ≤ k ∧ k ≤ i ∧ j = .int .i64 k ∧ At g n (insAt C i k) wr ∧ Oth g w wr ∧ ∀ q, k ≤ q → q < i → kf xs (C i) < kf xs (C q)
def InsRel (g n a b : Nat) (xs : List Nat) (D : Nat → Int) (w : World) (i : Value) (wr : World) : Prop :=
  ∃ k : Nat, ∃ C : Nat → Int, a + 1 ≤ k ∧ (k ≤ b ∨ k = a + 1) ∧ i = .int .i64 k ∧ At g n C wr ∧ Oth g w wr ∧ Moves a b D C ∧ Stab (kf xs) C a b ∧ LS (kf xs) C a (min k b)
def SortPost (g n a b : Nat) (xs : List Nat) (D : Nat → Int) (w : World) (e : Ending) (w' : World) : Prop :=
  e = .returned (.tuple #[]) ∧ ∃ C : Nat → Int, At g n C w' ∧ Oth g w w' ∧ Moves a b D C ∧ LS (kf xs) C a b

set_option maxHeartbeats 1000000 in
theorem insertion_any (g c n cap a b : Nat) (xs : List Nat) (D : Nat → Int) (w : World) (hn : n ≤ 1000) (hl : xs.length ≤ 1000) (hab : a ≤ b) (hbn : b ≤ n) (hD : At g n D w) (hE : Env g c xs w) (hr : ∀ p, p < n → 0 ≤ D p ∧ D p < xs.length) (hs : Stab (kf xs) D a b) :
    Calls Tryd.prog 40 #[.slice (some ⟨g, 0, none⟩) n cap, .int .i64 a, .int .i64 b, .func (.func 30) #[] #[.pointer (some ⟨c, 0, none⟩)]] w (SortPost g n a b xs D w) := by
  have hD' := Lib.hid hD
  have hE' := Lib.hid hE
  have hr' := Lib.hid hr
  have hs' := Lib.hid hs
  clear hD hE hr hs
  go_enter Tryd.func40, Tryd.ntmps40
  go_wp2_with fail
  go_loopw [8, 9] (fun i _ wr => InsRel g n a b xs D w i wr) (fun i _ _ => b - (intOf i).toNat)
  case atStart => exact ⟨a + 1, D, by omega, by omega, by congr 1, hD'.out, Oth.refl _ _, Moves.refl _ _ _, hs'.out, fun p q _ _ _ => by omega⟩
  case round =>
    obtain ⟨i, C, hi1, hi2, rfl, hA, hO, hM, hS, hL⟩ := hrel
    have hA' := Lib.hid hA
    have hO' := Lib.hid hO
    have hM' := Lib.hid hM
    have hS' := Lib.hid hS
    have hL' := Lib.hid hL
    clear hA hO hM hS hL
    by_cases hlt : i < b
    · go_wp2_with fail
      obtain ⟨wo, hwo⟩ : ∃ wo : World, wo = wr := ⟨_, rfl⟩
      subst hwo
      go_loopw [9] (fun j wr => InsIn g n a i xs C w j wr) (fun j _ => (intOf j).toNat)
      case atStart => exact ⟨i, by omega, Nat.le_refl _, rfl, hA'.out.congr fun p _ => by unfold insAt; repeat' split; all_goals first | rfl | omega | (congr 1; omega), hO'.out, fun q _ _ => by omega⟩
      case round =>
        obtain ⟨k, ka, ki, rfl, hB, hP, hq⟩ := hrel
        have rC := hM'.out.rng hbn hr'.out
        obtain ⟨X, hX⟩ := Int.eq_ofNat_of_zero_le (rC i (by omega)).1
        have hXl : X < xs.length := by have := (rC i (by omega)).2; omega
        have c1 : wr.cell? ⟨g, k, none⟩ = some (.int .i64 (X : Int)) := by
          rw [(hB k (by omega)).1, ← hX]; unfold insAt; rw [if_pos rfl]
        have f1 := (hB k (by omega)).2
        have hX' := Lib.hid hX
        have hB' := Lib.hid hB
        have hP' := Lib.hid hP
        have hq' := Lib.hid hq
        clear hX hB hP hq
        have b1 : (0 : Int) ≤ (k : Int) := by omega
        have b2 : (k : Int) < (n : Int) := by omega
        by_cases hak : a < k
        · obtain ⟨Y, hY⟩ := Int.eq_ofNat_of_zero_le (rC (k - 1) (by omega)).1
          have hYl : Y < xs.length := by have := (rC (k - 1) (by omega)).2; omega
          have c2 : wr.cell? ⟨g, k - 1, none⟩ = some (.int .i64 (Y : Int)) := by
            rw [(hB'.out (k - 1) (by omega)).1, ← hY]; unfold insAt; rw [if_neg (by omega), if_neg (by omega)]
          have f2 := (hB'.out (k - 1) (by omega)).2
          have hY' := Lib.hid hY
          have b3 : (0 : Int) ≤ (k : Int) - 1 := by omega
          have b4 : (k : Int) - 1 < (n : Int) := by omega
          have b5 : ((k : Int) - 1).toNat = k - 1 := by omega
          have hg : (a : Int) < (k : Int) := by omega
          have rC' := Lib.hid rC
          clear hY rC
          by_cases hk : kf xs X < kf xs Y
          · have hc3 : decide (cmp3 (kf xs X) (kf xs Y) < 0) = true := by rw [cmp3_lt]; simpa using hk
            have hk' := Lib.hid hk
            clear hk
            go_wp2_with fail
            go_quiet ((go_at_call 30; refine Calls.quiet_of (cmpF_any g c xs X Y _ (hE'.out.on hP'.out.drewN) hXl hYl hl)))
            go_wp2_with fail
            go_region
            go_wp2_with fail
            refine ⟨⟨k - 1, by omega, by omega, by congr 1; omega, ?_, ((hP'.out.drewN).setCell _).setCell _, fun q q1 q2 => ?_⟩, by simp [intOf]; omega⟩
            · refine (hB'.out.drewN).swap0 (by omega) (by omega) _ _ fun p hp => ?_
              rw [insAt_step (by omega) ki, hX'.out, hY'.out]
            · by_cases e : q = k - 1
              · rw [e, hX'.out, hY'.out]; exact hk'.out
              · exact hq'.out q (by omega) q2
          · have hc3 : decide (cmp3 (kf xs X) (kf xs Y) < 0) = false := by rw [cmp3_lt]; simpa using hk
            have hso := Lib.hid (insAt_sorted ka ki hlt (show LS (kf xs) C a i from by have := hL'.out; rw [Nat.min_eq_left (by omega)] at this; exact this) hS'.out hq'.out (.inr (by rw [hX'.out, hY'.out]; exact hk)))
            have hmo := Lib.hid (insAt_moves (C := C) ka ki)
            clear hk
            go_wp2_with fail
            go_quiet ((go_at_call 30; refine Calls.quiet_of (cmpF_any g c xs X Y _ (hE'.out.on hP'.out.drewN) hXl hYl hl)))
            go_wp2_with fail
            exact ⟨⟨i + 1, insAt C i k, by omega, by omega, by go_num, hB'.out.drewN, hP'.out.drewN, hM'.out.trans (hmo.out.wider (Nat.le_refl _) (by omega)), hS'.out.moved hmo.out hso.out, by rw [Nat.min_eq_left (by omega)]; exact hso.out⟩, by simp [intOf]; omega⟩
        · have hg : decide ((a : Int) < (k : Int)) = false := decide_eq_false (by omega)
          have hso := Lib.hid (insAt_sorted ka ki hlt (show LS (kf xs) C a i from by have := hL'.out; rw [Nat.min_eq_left (by omega)] at this; exact this) hS'.out hq'.out (.inl (by omega)))
          have hmo := Lib.hid (insAt_moves (C := C) ka ki)
          clear rC
          go_wp2_with fail
          go_quiet (fail)
          go_wp2_with fail
          exact ⟨⟨i + 1, insAt C i k, by omega, by omega, by go_num, hB'.out.drewN, hP'.out.drewN, hM'.out.trans (hmo.out.wider (Nat.le_refl _) (by omega)), hS'.out.moved hmo.out hso.out, by rw [Nat.min_eq_left (by omega)]; exact hso.out⟩, by simp [intOf]; omega⟩
    · go_wp2_with fail
      go_end0
      exact ⟨rfl, C, hA'.out, hO'.out, hM'.out, by have := hL'.out; rw [Nat.min_eq_right (by omega)] at this; exact this⟩
end Go.Proofs.YtdnemlanahlnpaaDoor
