/-
  Numbers as bytes, the highest first: lists; rows of numbers, each in so many bytes.
-/
import Derived.Test.YtkeihpenelpblaaZw
namespace Go.Proofs.Ytkeihpenelpblaa
open Go.RowKit BigFrame

/-- the lowest w bytes of s, the highest first -/
def be : Nat → Nat → List Nat
  | 0, _ => []
  | w + 1, s => be w (s / 256) ++ [s % 256]
theorem be_length : ∀ (w s : Nat), (be w s).length = w
  | 0, _ => rfl
  | w + 1, s => by rw [be, List.length_append, be_length w]; rfl
theorem be_octs : ∀ (w s : Nat), Octs (be w s)
  | 0, _ => .nil
  | w + 1, s => (be_octs w _).append (.cons (by omega) .nil)
theorem be_two (n : Nat) : be 2 n = [n / 256 % 256, n % 256] := by simp [be]
theorem be_cons : ∀ (w s : Nat), be (w + 1) s = (s / 256 ^ w % 256) :: be w s
  | 0, s => by simp [be]
  | w + 1, s => by
    rw [be, be_cons w (s / 256)]
    show (s / 256 / 256 ^ w % 256) :: (be w (s / 256) ++ [s % 256]) = _
    rw [Nat.div_div_eq_div_mul, Nat.pow_succ, Nat.mul_comm 256]
    rfl
theorem rdN_snoc (l : List Nat) (x : Nat) : rdN (l ++ [x]) = rdN l * 256 + x := by
  unfold rdN
  rw [List.foldl_append, List.foldl_cons, List.foldl_nil]
theorem rdN_be : ∀ (w : Nat) {s : Nat}, s < 256 ^ w → rdN (be w s) = s
  | 0, s, h => by simp at h; subst h; rfl
  | w + 1, s, h => by
    rw [be, rdN_snoc, rdN_be w (s := s / 256) (by rw [Nat.pow_succ] at h; omega)]
    omega
theorem rdN_lt {l : List Nat} (h : Octs l) : rdN l < 256 ^ l.length := by
  have := rd_lt h l.length (Nat.le_refl _)
  rwa [List.take_length] at this
theorem be_rdN : ∀ (w : Nat) {l : List Nat}, Octs l → l.length = w → be w (rdN l) = l
  | 0, l, _, h => (List.eq_nil_of_length_eq_zero h).symm
  | w + 1, l, ho, h => by
    have e : l = l.take w ++ [bz l w] := by rw [← take_succ_bz (by omega), List.take_of_length_le (by omega)]
    have hx := ho w (by omega)
    have ht : (l.take w).length = w := by rw [List.length_take]; omega
    have h1 := be_rdN w (ho.take w) ht
    rw [be]
    have e1 : rdN l = rdN (l.take w) * 256 + bz l w := by
      have := congrArg rdN e
      rwa [rdN_snoc] at this
    rw [e1, show (rdN (l.take w) * 256 + bz l w) / 256 = rdN (l.take w) by omega, show (rdN (l.take w) * 256 + bz l w) % 256 = bz l w by omega, h1]
    exact e.symm

/-- numbers, each in so many bytes -/
def spellW : List Nat → List Int → List Nat
  | w :: ws, x :: xs => be w x.toNat ++ spellW ws xs
  | _, _ => []
def toldW : List Nat → List Nat → List Int
  | [], _ => []
  | w :: ws, b => ((rdN (b.take w) : Nat) : Int) :: toldW ws (b.drop w)
/-- each fits -/
def FitsW : List Nat → List Int → Prop
  | w :: ws, x :: xs => (0 ≤ x ∧ x < ((256 ^ w : Nat) : Int)) ∧ FitsW ws xs
  | [], [] => True
  | _, _ => False
theorem spellW_octs : ∀ (ws : List Nat) (xs : List Int), Octs (spellW ws xs)
  | [], _ => .nil
  | _ :: _, [] => .nil
  | w :: ws, _x :: xs => (be_octs w _).append (spellW_octs ws xs)
theorem spellW_length : ∀ {ws : List Nat} {xs : List Int}, xs.length = ws.length → (spellW ws xs).length = ws.sum
  | [], _, _ => rfl
  | _ :: _, [], h => by simp at h
  | w :: ws, x :: xs, h => by
    rw [spellW, List.length_append, be_length, spellW_length (by simpa using h), List.sum_cons]
theorem toldW_length : ∀ (ws : List Nat) (b : List Nat), (toldW ws b).length = ws.length
  | [], _ => rfl
  | w :: ws, b => by rw [toldW, List.length_cons, toldW_length ws, List.length_cons]
theorem told_spell : ∀ {ws : List Nat} {xs : List Int} (r : List Nat), FitsW ws xs → toldW ws (spellW ws xs ++ r) = xs
  | [], [], _, _ => rfl
  | [], _ :: _, _, h => h.elim
  | _ :: _, [], _, h => h.elim
  | w :: ws, x :: xs, r, h => by
    have hl := be_length w x.toNat
    rw [spellW, toldW, List.append_assoc, List.take_append_of_le_length (by omega), List.take_of_length_le (by omega), List.drop_append_of_le_length (by omega), List.drop_of_length_le (by omega), List.nil_append, told_spell r h.2]
    congr 1
    rw [rdN_be w (by have := h.1.2; have := h.1.1; omega)]
    have := h.1.1
    omega
theorem spell_told : ∀ (ws : List Nat) {b : List Nat}, Octs b → ws.sum ≤ b.length → spellW ws (toldW ws b) = b.take ws.sum
  | [], b, _, _ => by simp [spellW]
  | w :: ws, b, ho, h => by
    rw [List.sum_cons] at h
    rw [toldW, spellW, spell_told ws (ho.drop w) (by rw [List.length_drop]; omega), Int.toNat_natCast, be_rdN w (ho.take w) (by rw [List.length_take]; omega), List.sum_cons, List.take_add]
theorem spellW_inj {ws : List Nat} {xs ys : List Int} (hx : FitsW ws xs) (hy : FitsW ws ys) (h : spellW ws xs = spellW ws ys) : xs = ys := by
  rw [← told_spell [] hx, h, told_spell [] hy]
theorem FitsW.length : ∀ {ws : List Nat} {xs : List Int}, FitsW ws xs → xs.length = ws.length
  | [], [], _ => rfl
  | [], _ :: _, h => h.elim
  | _ :: _, [], h => h.elim
  | _ :: ws, _ :: xs, h => by rw [List.length_cons, List.length_cons, FitsW.length h.2]

theorem set_splice {α : Type} (L : List α) (o : Nat) (x : α) (B : List α) (h : o < L.length) : (splice L (o + 1) B).set o x = splice L o (x :: B) := by
  have e : (L.take (o + 1)).set o x = L.take o ++ [x] := by
    rw [← List.take_set, List.take_succ_eq_append_getElem (by rw [List.length_set]; exact h), List.getElem_set_self, List.take_set, List.set_eq_of_length_le (by simp; omega)]
  have e2 : o + 1 + B.length = o + (B.length + 1) := by omega
  unfold splice
  rw [List.set_append_left _ _ (by rw [List.length_take]; omega), e, List.append_assoc, List.length_cons, e2]
  rfl
theorem splice_splice {α : Type} (L A B : List α) (o : Nat) (h : o + A.length ≤ L.length) : splice (splice L o A) (o + A.length) B = splice L o (A ++ B) := by
  have ht : (L.take o).length = o := by rw [List.length_take]; omega
  unfold splice
  have e1 : (L.take o ++ (A ++ L.drop (o + A.length))).take (o + A.length) = L.take o ++ A := by
    rw [← List.append_assoc, List.take_append_of_le_length (by rw [List.length_append]; omega), List.take_of_length_le (by rw [List.length_append]; omega)]
  have e2 : (L.take o ++ (A ++ L.drop (o + A.length))).drop (o + A.length + B.length) = L.drop (o + (A ++ B).length) := by
    rw [← List.append_assoc, List.drop_append, List.drop_of_length_le (by rw [List.length_append]; omega), List.nil_append, List.drop_drop, List.length_append, List.length_append]
    congr 1
    omega
  rw [e1, e2, List.append_assoc, List.append_assoc]
theorem splice_nil {α : Type} (L : List α) (o : Nat) : splice L o [] = L := by simp [splice]
end Go.Proofs.Ytkeihpenelpblaa
