/-
  How many are there: sums over groups; the first one that is free, where one is.
-/
import Derived.Test.YtdkjmpicdkfgoaaQl
namespace Go.Proofs.Ytdkjmpicdkfgoaa
open Go.RowKit BigFrame Fl

/-- how many of the first n hold -/
def cntF (h : Nat → Bool) : Nat → Nat
  | 0 => 0
  | n + 1 => cntF h n + (if h n = true then 1 else 0)
theorem count_F (l : List Nat) : ∀ n, countN l n = cntF (hasN l) n
  | 0 => by simp [countN, allN, cntF]
  | n + 1 => by rw [countN_succ l n _ rfl, count_F l n]; rfl
theorem cntF_le (h : Nat → Bool) : ∀ n, cntF h n ≤ n
  | 0 => Nat.le_refl _
  | n + 1 => by
    have := cntF_le h n
    unfold cntF; split <;> omega
theorem cntF_congr {h d : Nat → Bool} : ∀ {n : Nat}, (∀ j, j < n → h j = d j) → cntF h n = cntF d n
  | 0, _ => rfl
  | n + 1, e => by unfold cntF; rw [cntF_congr (n := n) fun j hj => e j (by omega), e n (by omega)]
theorem cntF_one {h d : Nat → Bool} {j : Nat} (hj : h j = false) (dj : d j = true) (e : ∀ i, i ≠ j → d i = h i) : ∀ {n : Nat}, j < n → cntF d n = cntF h n + 1
  | n + 1, hn => by
    unfold cntF
    by_cases e2 : j = n
    · subst e2
      rw [cntF_congr (h := d) (d := h) fun i hi => e i (by omega), hj, dj, if_pos rfl, if_neg (by decide)]
    · rw [cntF_one hj dj e (n := n) (by omega), e n (Ne.symm e2)]; omega
theorem cntF_all {h : Nat → Bool} : ∀ {n : Nat}, cntF h n = n → ∀ j, j < n → h j = true
  | n + 1, e, j, hj => by
    have hl := cntF_le h n
    unfold cntF at e
    split at e
    · rename_i hn
      by_cases e2 : j = n
      · rw [e2]; exact hn
      · exact cntF_all (n := n) (by omega) j (by omega)
    · omega
theorem cntF_some {h : Nat → Bool} : ∀ {n : Nat}, cntF h n < n → ∃ j, j < n ∧ h j = false ∧ ∀ i, i < j → h i = true
  | n + 1, e => by
    by_cases hn : cntF h n < n
    · obtain ⟨j, h1, h2, h3⟩ := cntF_some hn
      exact ⟨j, by omega, h2, h3⟩
    · have hl := cntF_le h n
      have ha := cntF_all (h := h) (n := n) (by omega)
      refine ⟨n, by omega, ?_, ha⟩
      unfold cntF at e
      cases hh : h n
      · rfl
      · rw [hh, if_pos rfl] at e; omega
theorem cntF_true {h : Nat → Bool} : ∀ {n : Nat}, (∀ j, j < n → h j = true) → cntF h n = n
  | 0, _ => rfl
  | n + 1, e => by unfold cntF; rw [cntF_true (n := n) fun j hj => e j (by omega), e n (by omega), if_pos rfl]
theorem cntF_minus {h d r : Nat → Bool} : ∀ {n : Nat}, (∀ j, j < n → r j = (h j && !d j)) → (∀ j, j < n → d j = true → h j = true) → cntF r n + cntF d n = cntF h n
  | 0, _, _ => rfl
  | n + 1, e1, e2 => by
    have ih := cntF_minus (h := h) (d := d) (r := r) (n := n) (fun j hj => e1 j (by omega)) (fun j hj => e2 j (by omega))
    have a := e1 n (by omega)
    have b := e2 n (by omega)
    unfold cntF
    rw [a]
    cases hh : h n <;> cases hd : d n
    · simp; omega
    · rw [hh, hd] at b; exact absurd (b rfl) (by decide)
    · simp; omega
    · simp; omega
theorem freeN_F (X : Nat → List Nat) (o e k : Nat) : freeN X o e k + cntF (hasN (X (o + 2 + 2 * k))) e = e := by
  have := cntF_le (hasN (X (o + 2 + 2 * k))) e
  unfold freeN
  rw [count_F]; omega

/-- a sum over groups -/
def sumTo (f : Nat → Nat) : Nat → Nat
  | 0 => 0
  | n + 1 => sumTo f n + f n
theorem sumTo_congr {f h : Nat → Nat} : ∀ {n : Nat}, (∀ j, j < n → f j = h j) → sumTo f n = sumTo h n
  | 0, _ => rfl
  | n + 1, e => by unfold sumTo; rw [sumTo_congr (n := n) fun j hj => e j (by omega), e n (by omega)]
theorem sumTo_one {f h : Nat → Nat} {k : Nat} (hk : f k = h k + 1) (e : ∀ i, i ≠ k → f i = h i) : ∀ {n : Nat}, k < n → sumTo f n = sumTo h n + 1
  | n + 1, hn => by
    unfold sumTo
    by_cases e2 : k = n
    · subst e2
      rw [sumTo_congr (f := f) (h := h) fun i hi => e i (by omega), hk]; omega
    · rw [sumTo_one hk e (n := n) (by omega), e n (Ne.symm e2)]; omega
theorem sumTo_add (f h : Nat → Nat) : ∀ n, sumTo (fun k => f k + h k) n = sumTo f n + sumTo h n
  | 0 => rfl
  | n + 1 => by unfold sumTo; rw [sumTo_add f h n]; omega
theorem sumTo_const (e : Nat) : ∀ n, sumTo (fun _ => e) n = n * e
  | 0 => by simp [sumTo]
  | n + 1 => by
    have h : (n + 1) * e = n * e + e := Nat.succ_mul n e
    unfold sumTo; rw [sumTo_const e n]; omega
theorem sumTo_zero {f : Nat → Nat} : ∀ {n : Nat}, sumTo f n = 0 → ∀ k, k < n → f k = 0
  | n + 1, e, k, hk => by
    unfold sumTo at e
    by_cases e2 : k = n
    · subst e2; omega
    · exact sumTo_zero (n := n) (by omega) k (by omega)
theorem sumTo_pos {f : Nat → Nat} : ∀ {n : Nat}, 0 < sumTo f n → ∃ k, k < n ∧ 0 < f k
  | n + 1, e => by
    unfold sumTo at e
    by_cases e2 : 0 < f n
    · exact ⟨n, by omega, e2⟩
    · obtain ⟨k, h1, h2⟩ := sumTo_pos (n := n) (f := f) (by omega)
      exact ⟨k, by omega, h2⟩
theorem freeTo_sum (X : Nat → List Nat) (o e : Nat) : ∀ n, freeTo X o e n = sumTo (freeN X o e) n
  | 0 => rfl
  | n + 1 => by unfold freeTo sumTo; rw [freeTo_sum X o e n]
/-- how many are taken in the first groups -/
def takTo (X : Nat → List Nat) (o e n : Nat) : Nat := sumTo (fun k => cntF (hasN (X (o + 2 + 2 * k))) e) n
theorem free_tak (X : Nat → List Nat) (o e n : Nat) : freeTo X o e n + takTo X o e n = n * e := by
  rw [freeTo_sum, takTo, ← sumTo_add, ← sumTo_const e n]
  exact sumTo_congr fun k _ => freeN_F X o e k
theorem defTo_sum (X : Nat → List Nat) (o e : Nat) : ∀ n, defTo X o e n = sumTo (fun k => cntF (hasN (X (o + 2 + 2 * k + 1))) e) n
  | 0 => rfl
  | n + 1 => by unfold defTo sumTo; rw [defTo_sum X o e n, count_F]

/-- a group that has one that is free is best -/
theorem group_some {g i b : Nat} {X : Nat → List Nat} (near : Int) (q : Bool) (ok : Ok g i b) (h : 0 < freeTo X (polO q) (polE i b q) g) : ∃ k n, FirstAt g i b X near q k n := by
  rw [freeTo_sum] at h
  obtain ⟨k, hk, hf⟩ := sumTo_pos h
  have he := polE_le ok.i2 ok.b2 q
  have e0 := polE_pos ok.i1 ok.b1 q
  have hb : ∃ k : Nat, groupI g i b X near q = (k : Int) ∧ k < g ∧ 0 < freeN X (polO q) (polE i b q) k := by
    rcases bestI_spec (kf X (polO q) (polE i b q) near) (kf_ge _ _ _ _) g with ⟨_, h2⟩ | ⟨j, h1, h2, h3, _, _⟩
    · have a := h2 k hk
      have c := kf_pos near hf he e0
      omega
    · refine ⟨j, h1, h2, ?_⟩
      rcases Nat.eq_zero_or_pos (freeN X (polO q) (polE i b q) j) with e | e
      · rw [kf_zero near e] at h3; omega
      · exact e
  obtain ⟨j, h1, h2, h3⟩ := hb
  have hc := freeN_F X (polO q) (polE i b q) j
  obtain ⟨n, n1, n2, n3⟩ := cntF_some (h := hasN (X (polO q + 2 + 2 * j))) (n := polE i b q) (by omega)
  exact ⟨j, n, h1, h2, .inl ⟨n, rfl, by omega, n1, n2, fun i _ hi => n3 i hi⟩, n2, n1⟩
theorem group_zero {g i b : Nat} {X : Nat → List Nat} (near : Int) (q : Bool) (h : freeTo X (polO q) (polE i b q) g = 0) : groupI g i b X near q < 0 := by
  rw [freeTo_sum] at h
  have hz := sumTo_zero h
  show bestI (kf X (polO q) (polE i b q) near) g < 0
  rcases bestI_spec (kf X (polO q) (polE i b q) near) (kf_ge _ _ _ _) g with ⟨h1, _⟩ | ⟨j, _, h2, h3, _, _⟩
  · omega
  · rw [kf_zero near (hz j h2)] at h3; omega
/-- one put in: one more is taken -/
theorem tak_put {X : Nat → List Nat} {o e k j n : Nat} (hk : k < n) (hj : j < e) (hl : e ≤ 8 * (X (o + 2 + 2 * k)).length) (h0 : hasN (X (o + 2 + 2 * k)) j = false) :
    takTo (updX X (o + 2 + 2 * k) (putN (X (o + 2 + 2 * k)) j true)) o e n = takTo X o e n + 1 := by
  refine sumTo_one (k := k) ?_ (fun i hi => ?_) hk
  · rw [updX_at]
    refine cntF_one (j := j) h0 ?_ (fun i hi => ?_) hj
    · rw [hasN_put (by omega), if_pos rfl]
    · rw [hasN_put (by omega), if_neg hi]
  · rw [updX_off _ _ (by omega)]
theorem def_put {X : Nat → List Nat} {o e k j n : Nat} (hk : k < n) (hj : j < e) (hl : e ≤ 8 * (X (o + 2 + 2 * k + 1)).length) (h0 : hasN (X (o + 2 + 2 * k + 1)) j = false) :
    defTo (updX X (o + 2 + 2 * k + 1) (putN (X (o + 2 + 2 * k + 1)) j true)) o e n = defTo X o e n + 1 := by
  rw [defTo_sum, defTo_sum]
  refine sumTo_one (k := k) ?_ (fun i hi => ?_) hk
  · rw [updX_at]
    refine cntF_one (j := j) h0 ?_ (fun i hi => ?_) hj
    · rw [hasN_put (by omega), if_pos rfl]
    · rw [hasN_put (by omega), if_neg hi]
  · rw [updX_off _ _ (by omega)]
theorem tak_off {X Y : Nat → List Nat} {o e n : Nat} (h : ∀ k, k < n → X (o + 2 + 2 * k) = Y (o + 2 + 2 * k)) : takTo X o e n = takTo Y o e n := sumTo_congr fun k hk => by rw [h k hk]
theorem def_off {X Y : Nat → List Nat} {o e n : Nat} (h : ∀ k, k < n → X (o + 2 + 2 * k + 1) = Y (o + 2 + 2 * k + 1)) : defTo X o e n = defTo Y o e n := defTo_congr h
/-- those that are deferred are given back -/
theorem firm_has {X : Nat → List Nat} {o e n k : Nat} (hk : k < n) (x : Nat) : hasN (firmX X o e n (o + 2 + 2 * k)) x = (hasN (X (o + 2 + 2 * k)) x && !(decide (x < e) && hasN (X (o + 2 + 2 * k + 1)) x)) := by
  rw [firmX_taken X o e hk, takeOut_has]
  congr 2
  unfold allN
  rw [Bool.eq_iff_iff]
  simp [List.mem_filter]
theorem tak_firm {X : Nat → List Nat} {o e n : Nat} (h : ∀ k, k < n → ∀ j, j < e → hasN (X (o + 2 + 2 * k + 1)) j = true → hasN (X (o + 2 + 2 * k)) j = true) : takTo (firmX X o e n) o e n + defTo X o e n = takTo X o e n := by
  rw [defTo_sum]
  unfold takTo
  rw [← sumTo_add]
  refine sumTo_congr fun k hk => cntF_minus (fun j hj => ?_) (h k hk)
  rw [firm_has hk, decide_eq_true hj, Bool.true_and]
theorem def_zero {X : Nat → List Nat} {o e n : Nat} (h : ∀ k, k < n → ∀ j, j < e → hasN (X (o + 2 + 2 * k + 1)) j = false) : defTo X o e n = 0 := by
  rw [defTo_sum, ← Nat.mul_zero n, ← sumTo_const 0 n]
  refine sumTo_congr fun k hk => ?_
  have := cntF_congr (h := hasN (X (o + 2 + 2 * k + 1))) (d := fun _ => false) (n := e) (fun j hj => h k hk j hj)
  rw [this]
  clear this h
  induction e with
  | zero => rfl
  | succ e ih => unfold cntF; rw [ih]; rfl
end Go.Proofs.Ytdkjmpicdkfgoaa
