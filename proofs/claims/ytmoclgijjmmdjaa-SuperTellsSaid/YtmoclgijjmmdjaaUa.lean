/-
  Superblocks as lists of bytes: what is laid, and what any bytes are read as.
-/
import Derived.Test.YtmoclgijjmmdjaaZx
import Derived.Test.YtmoclgijjmmdjaaPb
import Derived.Test.YtmoclgijjmmdjaaGt
namespace Go.Proofs.Ytmoclgijjmmdjaa
open Go.RowKit BigFrame

/-- the eight bytes that tell something -/
def body8 (g i b o : Nat) : List Nat := [80, 82, 76, 1, g, i, b, o]
theorem body8_length (g i b o : Nat) : (body8 g i b o).length = 8 := rfl
theorem body8_octs {g i b o : Nat} (hg : g < 256) (hi : i < 256) (hb : b < 256) (ho : o < 256) : Octs (body8 g i b o) :=
  octs_mem (by intro x hx; simp [body8] at hx; omega)
/-- a superblock -/
def superS (g i b : Nat) (o : Bool) : List Nat := sealed 83 (body8 g i b o.toNat)
theorem toNat_le (o : Bool) : o.toNat ≤ 1 := by cases o <;> decide
theorem superS_length (g i b : Nat) (o : Bool) : (superS g i b o).length = 128 := sealed_length (by rw [body8_length]; omega)
theorem Ok.octs {g i b : Nat} (h : Ok g i b) (o : Bool) : Octs (body8 g i b o.toNat) := by
  obtain ⟨_, h2, _, h4, _, _, h7⟩ := h
  have := toNat_le o
  exact body8_octs (by omega) (by omega) (by omega) (by omega)
theorem Ok.sup {g i b : Nat} (h : Ok g i b) (o : Bool) : Octs (superS g i b o) := sealed_octs (by omega) (h.octs o)
theorem superS_kind (g i b : Nat) (o : Bool) : kindOf (superS g i b o) = 83 := kindOf_sealed (by rw [body8_length]; omega)
theorem superS_fits (g i b : Nat) (o : Bool) : fitsB (superS g i b o) = true := sealed_fits (by rw [body8_length]; omega)
theorem superS_body (g i b : Nat) (o : Bool) : bodyOf (superS g i b o) = body8 g i b o.toNat ++ zs 115 := bodyOf_sealed (by rw [body8_length]; omega)
theorem superS_inj {g i b g' i' b' : Nat} {o o' : Bool} (h : superS g i b o = superS g' i' b' o') : g = g' ∧ i = i' ∧ b = b' ∧ o = o' := by
  have h1 := congrArg bodyOf h
  rw [superS_body, superS_body] at h1
  have h2 := List.append_cancel_right h1
  simp only [body8, List.cons.injEq, and_true, true_and] at h2
  obtain ⟨a1, a2, a3, a4⟩ := h2
  exact ⟨a1, a2, a3, by cases o <;> cases o' <;> simp_all⟩

/-- is it the superblock of these? -/
def headed (m : List Nat) : Bool := decide (m.take 4 = [80, 82, 76, 1])
/-- the body tells a geometry -/
def fine (m : List Nat) : Bool := headed m && mayZ (bz m 4) (bz m 5) (bz m 6) && decide (bz m 7 ≤ 1) && blanked (m.drop 8)
theorem body_fine {m : List Nat} (hm : m.length = 123) : fine m = true ↔ mayZ (bz m 4) (bz m 5) (bz m 6) = true ∧ m = body8 (bz m 4) (bz m 5) (bz m 6) (decide (bz m 7 = 1)).toNat ++ zs 115 := by
  unfold fine headed blanked
  simp only [Bool.and_eq_true, decide_eq_true_eq]
  constructor
  · rintro ⟨⟨⟨h1, h2⟩, h3⟩, h4⟩
    refine ⟨h2, ?_⟩
    have e := (List.take_append_drop 8 m).symm
    rw [h4, show (m.drop 8).length = 115 by rw [List.length_drop]; omega] at e
    have e7 : (decide (bz m 7 = 1)).toNat = bz m 7 := by
      have : bz m 7 = 0 ∨ bz m 7 = 1 := by omega
      rcases this with h | h <;> rw [h] <;> rfl
    rw [e7]
    have e8 : m.take 8 = body8 (bz m 4) (bz m 5) (bz m 6) (bz m 7) := by
      rw [take_succ_bz (by omega), take_succ_bz (by omega), take_succ_bz (by omega), take_succ_bz (by omega), h1]; rfl
    rw [e8] at e
    exact e
  · rintro ⟨h2, h⟩
    have h' := h
    generalize bz m 4 = x4 at *
    generalize bz m 5 = x5 at *
    generalize bz m 6 = x6 at *
    have e7 : bz m 7 = (decide (bz m 7 = 1)).toNat := by
      have := congrArg (fun l => bz l 7) h
      exact this
    refine ⟨⟨⟨?_, h2⟩, by rw [e7]; exact toNat_le _⟩, ?_⟩
    · rw [h]; rfl
    · rw [h]; rfl
theorem fine_super {l : List Nat} (ho : Octs l) (hk : kindOf l = 83) : fine (bodyOf l) = true ↔
    mayZ (bz (bodyOf l) 4) (bz (bodyOf l) 5) (bz (bodyOf l) 6) = true ∧ superS (bz (bodyOf l) 4) (bz (bodyOf l) 5) (bz (bodyOf l) 6) (decide (bz (bodyOf l) 7 = 1)) = l := by
  have hl : l.length = 128 := kindOf_len (by omega)
  have hf : fitsB l = true ∧ bz l 0 = 83 := by
    unfold kindOf at hk
    split at hk
    · rename_i h; exact ⟨h.2, hk⟩
    · omega
  have hs : sealed 83 (bodyOf l) = l := by have := (sealed_body ho hl).2 hf.1; rwa [hf.2] at this
  rw [body_fine (bodyOf_length hl)]
  refine and_congr_right fun _ => ?_
  constructor
  · intro h
    have h1 := hs
    rw [h, sealed_pad (by rw [body8_length]; omega)] at h1
    exact h1
  · intro h
    have h1 := congrArg bodyOf h
    rw [superS_body] at h1
    exact h1.symm
/-- what any bytes are read as -/
def readOf (l : List Nat) : Value :=
  if kindOf l = 83 ∧ fine (bodyOf l) = true then .tuple #[geo (bz (bodyOf l) 4) (bz (bodyOf l) 5) (bz (bodyOf l) 6), .bool (decide (bz (bodyOf l) 7 = 1)), .int .i64 0] else .tuple #[geo 0 0 0, .bool false, .int .i64 3]
theorem readOf_no {l : List Nat} (h : ¬ (kindOf l = 83 ∧ fine (bodyOf l) = true)) : readOf l = .tuple #[geo 0 0 0, .bool false, .int .i64 3] := by unfold readOf; rw [if_neg h]
theorem readOf_super {g i b : Nat} (o : Bool) (h : Ok g i b) : readOf (superS g i b o) = .tuple #[geo g i b, .bool o, .int .i64 0] := by
  have e4 : bz (bodyOf (superS g i b o)) 4 = g := by rw [superS_body]; rfl
  have e5 : bz (bodyOf (superS g i b o)) 5 = i := by rw [superS_body]; rfl
  have e6 : bz (bodyOf (superS g i b o)) 6 = b := by rw [superS_body]; rfl
  have e7 : decide (bz (bodyOf (superS g i b o)) 7 = 1) = o := by
    rw [superS_body]
    show decide (o.toNat = 1) = o
    cases o <;> rfl
  have hf := (fine_super (h.sup o) (superS_kind g i b o)).2 (by rw [e4, e5, e6, e7]; exact ⟨h.may, rfl⟩)
  unfold readOf
  rw [if_pos ⟨superS_kind g i b o, hf⟩, e4, e5, e6, e7]
end Go.Proofs.Ytmoclgijjmmdjaa
