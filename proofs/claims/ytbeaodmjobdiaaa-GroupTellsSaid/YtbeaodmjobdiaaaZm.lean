/-
  The sum of a sealed sector as a function on numbers: each step, and the end, can be undone.
-/
import Derived.Test.YtbeaodmjobdiaaaRw
namespace Go.Proofs.Ytbeaodmjobdiaaa

def step (s x : Nat) : Nat := (s ^^^ x) * 16777619 % 4294967296
def sumFrom (s : Nat) (l : List Nat) : Nat := l.foldl step s
def mixA (s : Nat) : Nat := (s ^^^ (s / 32768)) * 2246822507 % 4294967296
def mix (s : Nat) : Nat := mixA s ^^^ (mixA s / 8192)
def sumOf (l : List Nat) : Nat := mix (sumFrom 2166136261 l)

theorem step_lt (s x : Nat) : step s x < 4294967296 := by unfold step; exact Nat.mod_lt _ (by decide)
theorem mixA_lt (s : Nat) : mixA s < 4294967296 := by unfold mixA; exact Nat.mod_lt _ (by decide)
theorem xor_lt32 {a b : Nat} (ha : a < 4294967296) (hb : b < 4294967296) : a ^^^ b < 4294967296 := by
  have h := Nat.xor_lt_two_pow (n := 32) (x := a) (y := b) (by simpa using ha) (by simpa using hb)
  simpa using h
theorem mix_lt (s : Nat) : mix s < 4294967296 := by
  unfold mix
  exact xor_lt32 (mixA_lt s) (by have := mixA_lt s; omega)
theorem sumOf_lt (l : List Nat) : sumOf l < 4294967296 := by unfold sumOf; exact mix_lt _
theorem sumFrom_snoc (s : Nat) (l : List Nat) (x : Nat) : sumFrom s (l ++ [x]) = step (sumFrom s l) x := by
  unfold sumFrom
  rw [List.foldl_append, List.foldl_cons, List.foldl_nil]
theorem sumFrom_lt (s : Nat) (hs : s < 4294967296) (l : List Nat) : sumFrom s l < 4294967296 := by
  induction l generalizing s with
  | nil => exact hs
  | cons x l ih => exact ih _ (step_lt s x)
theorem sum_take_succ {l : List Nat} {k : Nat} (s : Nat) (h : k < l.length) : sumFrom s (l.take (k + 1)) = step (sumFrom s (l.take k)) (bz l k) := by
  rw [take_succ_bz h, sumFrom_snoc]

theorem mul_odd_inj (p q a b : Nat) (hpq : p * q % 4294967296 = 1) (ha : a < 4294967296) (hb : b < 4294967296) (h : a * p % 4294967296 = b * p % 4294967296) : a = b := by
  have e : ∀ x, x < 4294967296 → (x * p % 4294967296) * q % 4294967296 = x := by
    intro x hx
    rw [Nat.mod_mul_mod, Nat.mul_assoc, Nat.mul_mod, hpq, Nat.mul_one, Nat.mod_mod, Nat.mod_eq_of_lt hx]
  rw [← e a ha, h, e b hb]
theorem step_inj {s s' x x' : Nat} (hs : s < 4294967296) (hs' : s' < 4294967296) (hx : x < 4294967296) (hx' : x' < 4294967296) (h : step s x = step s' x') : s ^^^ x = s' ^^^ x' := by
  unfold step at h
  exact mul_odd_inj 16777619 899433627 _ _ (by decide) (xor_lt32 hs hx) (xor_lt32 hs' hx') h
theorem xor_right_cancel {a b c : Nat} (h : a ^^^ c = b ^^^ c) : a = b := by
  have := congrArg (· ^^^ c) h
  simpa [Nat.xor_assoc] using this
theorem xor_left_cancel {a b c : Nat} (h : c ^^^ a = c ^^^ b) : a = b := xor_right_cancel (by rw [Nat.xor_comm a c, Nat.xor_comm b c]; exact h)

theorem shift_inj (d : Nat) (hd : 0 < d) {a b : Nat} (ha : a < 4294967296) (hb : b < 4294967296) (h : a ^^^ (a / 2 ^ d) = b ^^^ (b / 2 ^ d)) : a = b := by
  have key : ∀ n i, 32 ≤ i + n → a.testBit i = b.testBit i := by
    intro n
    induction n with
    | zero =>
      intro i hi
      have hp : (2 : Nat) ^ 32 ≤ 2 ^ i := Nat.pow_le_pow_right (by decide) (by omega)
      have pa : a < 2 ^ i := Nat.lt_of_lt_of_le ha hp
      have pb : b < 2 ^ i := Nat.lt_of_lt_of_le hb hp
      rw [Nat.testBit_lt_two_pow pa, Nat.testBit_lt_two_pow pb]
    | succ n ih =>
      intro i hi
      have hh := congrArg (fun z => Nat.testBit z i) h
      simp only [Nat.testBit_xor, Nat.testBit_div_two_pow] at hh
      rw [ih (i + d) (by omega)] at hh
      revert hh
      cases a.testBit i <;> cases b.testBit i <;> cases b.testBit (i + d) <;> simp
  exact Nat.eq_of_testBit_eq fun i => key 32 i (by omega)
theorem mix_inj {a b : Nat} (ha : a < 4294967296) (hb : b < 4294967296) (h : mix a = mix b) : a = b := by
  have h1 : mixA a = mixA b := by
    unfold mix at h
    exact shift_inj 13 (by decide) (mixA_lt a) (mixA_lt b) h
  unfold mixA at h1
  have h2 := mul_odd_inj 2246822507 2781581891 _ _ (by decide) (xor_lt32 ha (by omega)) (xor_lt32 hb (by omega)) h1
  exact shift_inj 15 (by decide) ha hb h2
theorem sumFrom_inj {s s' : Nat} (hs : s < 4294967296) (hs' : s' < 4294967296) : ∀ {l : List Nat}, (∀ x ∈ l, x < 256) → sumFrom s l = sumFrom s' l → s = s' := by
  intro l
  induction l generalizing s s' with
  | nil => intro _ h; exact h
  | cons x l ih =>
    intro hl h
    have hx := hl x (by simp)
    have h1 := ih (step_lt s x) (step_lt s' x) (fun y hy => hl y (by simp [hy])) h
    exact xor_right_cancel (step_inj hs hs' (by omega) (by omega) h1)
/-- one byte another one: another sum -/
theorem sumOf_set {l : List Nat} {k v : Nat} (hl : ∀ x ∈ l, x < 256) (hk : k < l.length) (hv : v < 256) (h : sumOf (l.set k v) = sumOf l) : v = bz l k := by
  have h0 : (2166136261 : Nat) < 4294967296 := by decide
  unfold sumOf at h
  have h1 := mix_inj (sumFrom_lt _ h0 _) (sumFrom_lt _ h0 _) h
  have e1 : l.set k v = l.take k ++ v :: l.drop (k + 1) := List.set_eq_take_append_cons_drop.trans (by rw [if_pos hk])
  have e2 : l = l.take k ++ bz l k :: l.drop (k + 1) := by rw [bz_get hk]; simp
  rw [e1] at h1
  have h1' : sumFrom 2166136261 (l.take k ++ v :: l.drop (k + 1)) = sumFrom 2166136261 (l.take k ++ bz l k :: l.drop (k + 1)) := by rw [h1, ← e2]
  simp only [sumFrom, List.foldl_append, List.foldl_cons] at h1'
  have hs : List.foldl step 2166136261 (l.take k) < 4294967296 := sumFrom_lt _ h0 _
  have h2 := sumFrom_inj (step_lt _ _) (step_lt _ _) (fun x hx => hl x (List.mem_of_mem_drop hx)) h1'
  have hb : bz l k < 256 := by rw [bz_get hk]; exact hl _ (List.getElem_mem hk)
  exact xor_left_cancel (step_inj hs hs (by omega) (by omega) h2)
end Go.Proofs.Ytbeaodmjobdiaaa
