/-
  Twelve pointers: as lists of integers, as bytes, as sectors.
-/
import Derived.Test.YtdpmpchmbjcocaaAi
import Derived.Test.YtdpmpchmbjcocaaPa
import Derived.Test.YtdpmpchmbjcocaaPf
import Derived.Test.YtdpmpchmbjcocaaPb
import Derived.Test.YtdpmpchmbjcocaaZx
namespace Go.Proofs.Ytdpmpchmbjcocaa
open Go.RowKit BigFrame

/-- may the first n be pointers? -/
def mayP (L : List Int) (n : Nat) : Prop := ∀ k, k < n → fitsN (zi L k) 2 = true
def may12 (L : List Int) : Bool := (List.range 12).all fun k => fitsN (zi L k) 2
theorem may12_iff {L : List Int} : may12 L = true ↔ mayP L 12 := by unfold may12 mayP; rw [List.all_eq_true]; simp only [List.mem_range]
theorem may12_no {L : List Int} {k : Nat} (hk : k < 12) (h : fitsN (zi L k) 2 = false) : may12 L = false := by
  cases h2 : may12 L
  · rfl
  · rw [may12_iff.1 h2 k hk] at h; cases h
theorem fits2_iff {x : Int} : fitsN x 2 = true ↔ 0 ≤ x ∧ x < 65536 := by
  unfold fitsN
  rw [decide_eq_true_eq]
  exact Iff.rfl
theorem fits2_nat {x : Int} (h : fitsN x 2 = true) : ∃ s : Nat, x = (s : Int) ∧ s < 65536 := by
  obtain ⟨h1, h2⟩ := fits2_iff.1 h
  exact ⟨x.toNat, by omega, by omega⟩
/-- the bytes of the first n -/
def spP (L : List Int) : Nat → List Nat
  | 0 => []
  | n + 1 => spP L n ++ be 2 (zi L n).toNat
theorem spP_length (L : List Int) : ∀ n, (spP L n).length = 2 * n
  | 0 => rfl
  | n + 1 => by rw [spP, List.length_append, spP_length L n, be_length]; omega
theorem spP_octs (L : List Int) : ∀ n, Octs (spP L n)
  | 0 => .nil
  | n + 1 => (spP_octs L n).append (be_octs _ _)
/-- the k-th pointer that bytes tell -/
def pt (b : List Nat) (k : Nat) : Int := ((rdN ((b.drop (k * 2)).take 2) : Nat) : Int)
/-- what the first n of two bytes each tell -/
def tlP (b : List Nat) : Nat → List Int
  | 0 => []
  | n + 1 => tlP b n ++ [pt b n]
theorem tlP_length (b : List Nat) : ∀ n, (tlP b n).length = n
  | 0 => rfl
  | n + 1 => by rw [tlP, List.length_append, tlP_length b n]; rfl
theorem zi_tlP (b : List Nat) {k : Nat} (r : List Int) : ∀ {n : Nat}, k < n → zi (tlP b n ++ r) k = pt b k
  | 0, h => by omega
  | n + 1, h => by
    rw [tlP, List.append_assoc]
    by_cases e : k = n
    · subst e
      rw [zi_append_right (by rw [tlP_length]; omega), tlP_length, Nat.sub_self]
      rfl
    · exact zi_tlP b _ (by omega)
theorem zi_tl {b : List Nat} {k n : Nat} (h : k < n) : zi (tlP b n) k = pt b k := by
  have := zi_tlP b [] h
  rwa [List.append_nil] at this
theorem pt_fits {b : List Nat} (ho : Octs b) (k : Nat) : fitsN (pt b k) 2 = true := by
  have h := rdN_lt ((ho.drop (k * 2)).take 2)
  have h2 : 256 ^ ((b.drop (k * 2)).take 2).length ≤ 256 ^ 2 := Nat.pow_le_pow_right (by decide) (by rw [List.length_take]; omega)
  rw [fits2_iff]
  unfold pt
  have e : (256 ^ 2 : Nat) = 65536 := rfl
  omega
theorem mayP_tl {b : List Nat} (ho : Octs b) (n : Nat) : mayP (tlP b n) n := fun k hk => by rw [zi_tl hk]; exact pt_fits ho k
theorem drop_spP {L : List Int} (r : List Nat) {k : Nat} : ∀ {n : Nat}, k < n → ((spP L n ++ r).drop (k * 2)).take 2 = be 2 (zi L k).toNat
  | 0, h => by omega
  | n + 1, h => by
    have h1 := spP_length L n
    have h2 := be_length 2 (zi L n).toNat
    rw [spP, List.append_assoc]
    by_cases e : k = n
    · subst e
      rw [List.drop_append_of_le_length (by omega), List.drop_of_length_le (by omega), List.nil_append, List.take_append_of_le_length (by omega), List.take_of_length_le (by omega)]
    · exact drop_spP _ (by omega)
theorem pt_sp {L : List Int} {n k : Nat} (r : List Nat) (hm : mayP L n) (hk : k < n) : pt (spP L n ++ r) k = zi L k := by
  obtain ⟨s, hs, h2⟩ := fits2_nat (hm k hk)
  unfold pt
  rw [drop_spP r hk, hs, Int.toNat_natCast, rdN_be 2 (by show s < 65536; omega)]
theorem spP_told {b : List Nat} (ho : Octs b) {L : List Int} : ∀ (n : Nat), n * 2 ≤ b.length → (∀ k, k < n → zi L k = pt b k) → spP L n = b.take (n * 2)
  | 0, _, _ => by simp [spP]
  | n + 1, h, hL => by
    rw [spP, spP_told ho n (by omega) (fun k hk => hL k (by omega)), hL n (by omega)]
    unfold pt
    rw [Int.toNat_natCast, be_rdN 2 ((ho.drop _).take _) (by rw [List.length_take, List.length_drop]; omega), show (n + 1) * 2 = n * 2 + 2 by omega, List.take_add]
/-- a sector of twelve -/
def sec12 (L : List Int) : List Nat := sealed 80 (spP L 12)
theorem sec12_length (L : List Int) : (sec12 L).length = 128 := sealed_length (by rw [spP_length]; omega)
theorem sec12_octs (L : List Int) : Octs (sec12 L) := sealed_octs (by omega) (spP_octs L 12)
theorem sec12_kind (L : List Int) : kindOf (sec12 L) = 80 := kindOf_sealed (by rw [spP_length]; omega)
theorem sec12_fits (L : List Int) : fitsB (sec12 L) = true := sealed_fits (by rw [spP_length]; omega)
theorem sec12_body (L : List Int) : bodyOf (sec12 L) = spP L 12 ++ zs 99 := by
  have := bodyOf_sealed (kind := 80) (l := spP L 12) (by rw [spP_length]; omega)
  rw [spP_length] at this
  exact this
theorem tl_sec12 {L : List Int} (h : L.length = 12) (hm : mayP L 12) : tlP (bodyOf (sec12 L)) 12 = L := by
  refine zi_ext (by rw [tlP_length, h]) fun k hk => ?_
  rw [tlP_length] at hk
  rw [zi_tl hk, sec12_body, pt_sp _ hm hk]
theorem sec12_inj {L M : List Int} (hL : L.length = 12) (hM : M.length = 12) (h1 : mayP L 12) (h2 : mayP M 12) (h : sec12 L = sec12 M) : L = M := by
  rw [← tl_sec12 hL h1, h, tl_sec12 hM h2]
/-- the document's way: it is the sector of what it tells -/
theorem blank_sector {l : List Nat} (ho : Octs l) (hk : kindOf l = 80) : blanked ((bodyOf l).drop 24) = true ↔ sec12 (tlP (bodyOf l) 12) = l := by
  have hl : l.length = 128 := kindOf_len (by omega)
  have hf : fitsB l = true ∧ bz l 0 = 80 := by
    unfold kindOf at hk
    split at hk
    · rename_i h; exact ⟨h.2, hk⟩
    · omega
  have hs : sealed 80 (bodyOf l) = l := by have := (sealed_body ho hl).2 hf.1; rwa [hf.2] at this
  have hbl := bodyOf_length hl
  have hbo : Octs (bodyOf l) := (ho.drop 1).take 123
  have hsp : spP (tlP (bodyOf l) 12) 12 = (bodyOf l).take 24 := spP_told hbo 12 (by omega) (fun k hk => zi_tl hk)
  unfold blanked
  rw [decide_eq_true_eq, List.length_drop, hbl]
  constructor
  · intro h
    unfold sec12
    rw [hsp]
    have e := (List.take_append_drop 24 (bodyOf l)).symm
    rw [h] at e
    have e2 := sealed_pad (kind := 80) (k := 99) (l := (bodyOf l).take 24) (by rw [List.length_take]; omega)
    rw [← e2]
    rw [e] at hs
    exact hs
  · intro h
    have h1 := congrArg bodyOf h
    rw [sec12_body, hsp] at h1
    have h2 := congrArg (List.drop 24) h1
    rw [List.drop_append_of_le_length (by rw [List.length_take]; omega), List.drop_of_length_le (by rw [List.length_take]; omega), List.nil_append] at h2
    exact h2.symm
/-- what any bytes are read as -/
def fineP (l : List Nat) : Bool := decide (kindOf l = 80) && blanked ((bodyOf l).drop 24)
def readP (l : List Nat) : List Int × Int := if fineP l = true then (tlP (bodyOf l) 12, 0) else (zz 12, 3)
theorem fineP_kind {l : List Nat} (h : kindOf l ≠ 80) : fineP l = false := by unfold fineP; rw [decide_eq_false h]; rfl
theorem fineP_blank {l : List Nat} (h : kindOf l = 80) : fineP l = blanked ((bodyOf l).drop 24) := by unfold fineP; rw [decide_eq_true h]; rfl
theorem readP_no {l : List Nat} (h : fineP l = false) : readP l = (zz 12, 3) := by unfold readP; rw [h]; rfl
theorem readP_yes {l : List Nat} (h : fineP l = true) : readP l = (tlP (bodyOf l) 12, 0) := by unfold readP; rw [h]; rfl
theorem readP_sec {L : List Int} (h : L.length = 12) (hm : mayP L 12) : readP (sec12 L) = (L, 0) := by
  have hf : fineP (sec12 L) = true := by rw [fineP_blank (sec12_kind L), (blank_sector (sec12_octs L) (sec12_kind L))]; rw [tl_sec12 h hm]
  rw [readP_yes hf, tl_sec12 h hm]
theorem readP_length (l : List Nat) : (readP l).1.length = 12 := by
  unfold readP
  split
  · exact tlP_length _ _
  · rfl
theorem readP_flip {L : List Int} {k d : Nat} (hk : k < 128) (hd : 0 < d) (hd2 : d < 256) : readP ((sec12 L).set k (bz (sec12 L) k ^^^ d)) = (zz 12, 3) :=
  readP_no (fineP_kind (by rw [kindOf_flip (sec12_octs L) (sec12_length L) (sec12_fits L) hk hd hd2]; decide))
end Go.Proofs.Ytdpmpchmbjcocaa
