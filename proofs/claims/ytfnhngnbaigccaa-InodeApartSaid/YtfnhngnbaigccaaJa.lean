/-
  Inodes as lists of eleven integers, and as bytes; four of them.
-/
import Derived.Test.YtfnhngnbaigccaaAi
import Derived.Test.YtfnhngnbaigccaaPa
import Derived.Test.YtfnhngnbaigccaaPf
import Derived.Test.YtfnhngnbaigccaaPb
import Derived.Test.YtfnhngnbaigccaaZx
namespace Go.Proofs.Ytfnhngnbaigccaa
open Go.RowKit BigFrame

/-- how many bytes each number takes: Kind, Links, Size, six of Direct, Single, Double -/
def wsI : List Nat := [1, 2, 4, 2, 2, 2, 2, 2, 2, 2, 2]
/-- do all pointers fit? -/
def ptrsI (l : List Int) : Bool := (List.range 6).all (fun j => fitsN (zi l (3 + j)) 2) && (fitsN (zi l 9) 2 && fitsN (zi l 10) 2)
/-- may it be? -/
def mayI (l : List Int) : Bool := decide (l = zz 11) || (decide (1 ≤ zi l 0 ∧ zi l 0 ≤ 3) && (fitsN (zi l 1) 2 && (decide (0 ≤ zi l 2 ∧ zi l 2 ≤ 20736) && ptrsI l)))
theorem fitsN_iff {n : Int} {s : Nat} : fitsN n s = true ↔ 0 ≤ n ∧ n < ((256 ^ s : Nat) : Int) := by unfold fitsN; rw [decide_eq_true_eq]
theorem eleven {l : List Int} (h : l.length = 11) : ∃ a b c d0 d1 d2 d3 d4 d5 e f, l = [a, b, c, d0, d1, d2, d3, d4, d5, e, f] := by
  match l, h with
  | [a, b, c, d0, d1, d2, d3, d4, d5, e, f], _ => exact ⟨a, b, c, d0, d1, d2, d3, d4, d5, e, f, rfl⟩
theorem ptrsI_iff (a b c d0 d1 d2 d3 d4 d5 e f : Int) : ptrsI [a, b, c, d0, d1, d2, d3, d4, d5, e, f] = true ↔
    fitsN d0 2 = true ∧ fitsN d1 2 = true ∧ fitsN d2 2 = true ∧ fitsN d3 2 = true ∧ fitsN d4 2 = true ∧ fitsN d5 2 = true ∧ fitsN e 2 = true ∧ fitsN f 2 = true := by
  unfold ptrsI
  rw [Bool.and_eq_true, Bool.and_eq_true, List.all_eq_true]
  simp only [List.mem_range]
  constructor
  · rintro ⟨h, h1, h2⟩
    exact ⟨h 0 (by omega), h 1 (by omega), h 2 (by omega), h 3 (by omega), h 4 (by omega), h 5 (by omega), h1, h2⟩
  · rintro ⟨h0, h1, h2, h3, h4, h5, h6, h7⟩
    refine ⟨fun j hj => ?_, h6, h7⟩
    match j, hj with
    | 0, _ => exact h0
    | 1, _ => exact h1
    | 2, _ => exact h2
    | 3, _ => exact h3
    | 4, _ => exact h4
    | 5, _ => exact h5
theorem mayI_fits {l : List Int} (hl : l.length = 11) (h : mayI l = true) : FitsW wsI l := by
  obtain ⟨a, b, c, d0, d1, d2, d3, d4, d5, e, f, rfl⟩ := eleven hl
  unfold mayI at h
  rw [Bool.or_eq_true, decide_eq_true_eq, Bool.and_eq_true, Bool.and_eq_true, Bool.and_eq_true, ptrsI_iff, decide_eq_true_eq, decide_eq_true_eq] at h
  simp only [fitsN_iff] at h
  have e1 : (256 ^ 1 : Nat) = 256 := rfl
  have e2 : (256 ^ 2 : Nat) = 65536 := rfl
  have e4 : (256 ^ 4 : Nat) = 4294967296 := rfl
  simp only [wsI, FitsW, e1, e2, e4] at h ⊢
  rcases h with h | ⟨hk, hb, hc, hd⟩
  · rw [show zz 11 = [0, 0, 0, 0, 0, 0, 0, 0, 0, 0, 0] from rfl] at h
    simp only [List.cons.injEq, and_true] at h
    refine ⟨?_, ?_, ?_, ?_, ?_, ?_, ?_, ?_, ?_, ?_, ?_, trivial⟩ <;> omega
  · have hk0 : zi [a, b, c, d0, d1, d2, d3, d4, d5, e, f] 0 = a := rfl
    have hk1 : zi [a, b, c, d0, d1, d2, d3, d4, d5, e, f] 1 = b := rfl
    have hk2 : zi [a, b, c, d0, d1, d2, d3, d4, d5, e, f] 2 = c := rfl
    rw [hk0] at hk
    rw [hk1] at hb
    rw [hk2] at hc
    refine ⟨?_, ?_, ?_, ?_, ?_, ?_, ?_, ?_, ?_, ?_, ?_, trivial⟩ <;> omega
/-- the bytes of an inode; what bytes tell -/
def spellI (l : List Int) : List Nat := spellW wsI l
def toldI (b : List Nat) : List Int := toldW wsI b
theorem spellI_length {l : List Int} (h : l.length = 11) : (spellI l).length = 23 := spellW_length (ws := wsI) (by rw [h]; rfl)
theorem toldI_length (b : List Nat) : (toldI b).length = 11 := toldW_length wsI b
theorem toldI_spell {l : List Int} (r : List Nat) (h : FitsW wsI l) : toldI (spellI l ++ r) = l := told_spell r h
theorem spellI_told {b : List Nat} (ho : Octs b) (h : 23 ≤ b.length) : spellI (toldI b) = b.take 23 := spell_told wsI ho h
theorem spellI_octs (l : List Int) : Octs (spellI l) := spellW_octs wsI l

/-- the k-th of four -/
def inoAt (L : List Int) (k : Nat) : List Int := (L.drop (k * 11)).take 11
theorem inoAt_length {L : List Int} (h : L.length = 44) {k : Nat} (hk : k < 4) : (inoAt L k).length = 11 := by
  unfold inoAt; rw [List.length_take, List.length_drop]; omega
theorem four_ext {L M : List Int} (hL : L.length = 44) (hM : M.length = 44) (h : ∀ k, k < 4 → inoAt L k = inoAt M k) : L = M := by
  refine zi_ext (by omega) fun k hk => ?_
  have e := congrArg (fun l => zi l (k % 11)) (h (k / 11) (by omega))
  unfold inoAt at e
  simp only [zi_take (show k % 11 < 11 by omega), zi_drop] at e
  rwa [show k / 11 * 11 + k % 11 = k by omega] at e
/-- may the first n of them be? -/
def mayN (L : List Int) (n : Nat) : Prop := ∀ k, k < n → mayI (inoAt L k) = true
def may4 (L : List Int) : Bool := (List.range 4).all fun k => mayI (inoAt L k)
theorem may4_iff {L : List Int} : may4 L = true ↔ mayN L 4 := by unfold may4 mayN; rw [List.all_eq_true]; simp only [List.mem_range]
/-- the bytes of the first n -/
def spellN (L : List Int) : Nat → List Nat
  | 0 => []
  | n + 1 => spellN L n ++ spellI (inoAt L n)
theorem spellN_length {L : List Int} (h : L.length = 44) : ∀ n, n ≤ 4 → (spellN L n).length = 23 * n
  | 0, _ => rfl
  | n + 1, hn => by rw [spellN, List.length_append, spellN_length h n (by omega), spellI_length (inoAt_length h (by omega))]; omega
theorem spellN_octs (L : List Int) : ∀ n, Octs (spellN L n)
  | 0 => .nil
  | n + 1 => (spellN_octs L n).append (spellI_octs _)
/-- what the first n of 23 bytes each tell -/
def toldN (b : List Nat) : Nat → List Int
  | 0 => []
  | n + 1 => toldN b n ++ toldI ((b.drop (n * 23)).take 23)
theorem toldN_length (b : List Nat) : ∀ n, (toldN b n).length = n * 11
  | 0 => rfl
  | n + 1 => by rw [toldN, List.length_append, toldN_length b n, toldI_length]; omega
theorem inoAt_toldN (b : List Nat) {k : Nat} (r : List Int) : ∀ {n : Nat}, k < n → inoAt (toldN b n ++ r) k = toldI ((b.drop (k * 23)).take 23)
  | 0, h => by omega
  | n + 1, h => by
    rw [toldN, List.append_assoc]
    by_cases e : k = n
    · subst e
      unfold inoAt
      rw [List.drop_append_of_le_length (by rw [toldN_length]; omega), List.drop_of_length_le (by rw [toldN_length]; omega), List.nil_append, List.take_append_of_le_length (by rw [toldI_length]; omega), List.take_of_length_le (by rw [toldI_length]; omega)]
    · exact inoAt_toldN b _ (by omega)
theorem spellN_congr {L M : List Int} : ∀ {n : Nat}, (∀ k, k < n → inoAt L k = inoAt M k) → spellN L n = spellN M n
  | 0, _ => rfl
  | n + 1, h => by rw [spellN, spellN, spellN_congr (n := n) (fun k hk => h k (by omega)), h n (by omega)]
theorem spellN_told {b : List Nat} (ho : Octs b) {L : List Int} : ∀ (n : Nat), n * 23 ≤ b.length → (∀ k, k < n → inoAt L k = toldI ((b.drop (k * 23)).take 23)) → spellN L n = b.take (n * 23)
  | 0, _, _ => by simp [spellN]
  | n + 1, h, hL => by
    rw [spellN, spellN_told ho n (by omega) (fun k hk => hL k (by omega)), hL n (by omega), spellI_told ((ho.drop _).take _) (by rw [List.length_take, List.length_drop]; omega), List.take_take, show min 23 23 = 23 from rfl,
      show (n + 1) * 23 = n * 23 + 23 by omega, List.take_add]
theorem drop_spellN {L : List Int} (hL : L.length = 44) (r : List Nat) {k : Nat} : ∀ {n : Nat}, k < n → n ≤ 4 → ((spellN L n ++ r).drop (k * 23)).take 23 = spellI (inoAt L k)
  | 0, h, _ => by omega
  | n + 1, h, hn => by
    have h1 := spellN_length hL n (by omega)
    have h2 := spellI_length (inoAt_length hL (show n < 4 by omega))
    rw [spellN, List.append_assoc]
    by_cases e : k = n
    · subst e
      rw [List.drop_append_of_le_length (by omega), List.drop_of_length_le (by omega), List.nil_append, List.take_append_of_le_length (by omega), List.take_of_length_le (by omega)]
    · exact drop_spellN hL _ (by omega) (by omega)
/-- a sector of four -/
def sector4 (L : List Int) : List Nat := sealed 73 (spellN L 4)
theorem sector4_length {L : List Int} (h : L.length = 44) : (sector4 L).length = 128 := sealed_length (by rw [spellN_length h 4 (by omega)]; omega)
theorem sector4_octs (L : List Int) : Octs (sector4 L) := sealed_octs (by omega) (spellN_octs L 4)
theorem sector4_kind {L : List Int} (h : L.length = 44) : kindOf (sector4 L) = 73 := kindOf_sealed (by rw [spellN_length h 4 (by omega)]; omega)
theorem sector4_body {L : List Int} (h : L.length = 44) : bodyOf (sector4 L) = spellN L 4 ++ zs 31 := by
  have := bodyOf_sealed (kind := 73) (l := spellN L 4) (by rw [spellN_length h 4 (by omega)]; omega)
  rw [spellN_length h 4 (by omega)] at this
  exact this
/-- what a body tells -/
def four (m : List Nat) : List Int := toldN m 4
theorem four_length (m : List Nat) : (four m).length = 44 := toldN_length m 4
theorem four_at (m : List Nat) {k : Nat} (hk : k < 4) : inoAt (four m) k = toldI ((m.drop (k * 23)).take 23) := by
  have := inoAt_toldN m [] (n := 4) hk
  rwa [List.append_nil] at this
theorem four_sector {L : List Int} (h : L.length = 44) (hm : mayN L 4) : four (bodyOf (sector4 L)) = L := by
  refine four_ext (four_length _) h fun k hk => ?_
  rw [four_at _ hk, sector4_body h, drop_spellN h _ hk (by omega)]
  have := toldI_spell [] (mayI_fits (inoAt_length h hk) (hm k hk))
  rwa [List.append_nil] at this
theorem sector4_inj {L M : List Int} (hL : L.length = 44) (hM : M.length = 44) (h1 : mayN L 4) (h2 : mayN M 4) (h : sector4 L = sector4 M) : L = M := by
  rw [← four_sector hL h1, h, four_sector hM h2]
/-- does the body tell four that may be, and nothing more? -/
def fine4 (m : List Nat) : Bool := may4 (four m) && blanked (m.drop 92)
theorem fine4_iff {m : List Nat} : fine4 m = true ↔ mayN (four m) 4 ∧ blanked (m.drop 92) = true := by unfold fine4; rw [Bool.and_eq_true, may4_iff]
/-- the document's way: it is the sector of what it tells -/
theorem fine4_sector {l : List Nat} (ho : Octs l) (hk : kindOf l = 73) : fine4 (bodyOf l) = true ↔ may4 (four (bodyOf l)) = true ∧ sector4 (four (bodyOf l)) = l := by
  have hl : l.length = 128 := kindOf_len (by omega)
  have hf : fitsB l = true ∧ bz l 0 = 73 := by
    unfold kindOf at hk
    split at hk
    · rename_i h; exact ⟨h.2, hk⟩
    · omega
  have hs : sealed 73 (bodyOf l) = l := by have := (sealed_body ho hl).2 hf.1; rwa [hf.2] at this
  have hbl := bodyOf_length hl
  have hbo : Octs (bodyOf l) := (ho.drop 1).take 123
  have hsp : spellN (four (bodyOf l)) 4 = (bodyOf l).take 92 := spellN_told hbo 4 (by omega) (fun k hk => four_at _ hk)
  unfold fine4
  rw [Bool.and_eq_true]
  refine and_congr_right fun _ => ?_
  unfold blanked
  rw [decide_eq_true_eq, List.length_drop, hbl]
  constructor
  · intro h
    unfold sector4
    rw [hsp]
    have e := (List.take_append_drop 92 (bodyOf l)).symm
    rw [h] at e
    have e2 := sealed_pad (kind := 73) (k := 31) (l := (bodyOf l).take 92) (by rw [List.length_take]; omega)
    rw [← e2]
    rw [e] at hs
    exact hs
  · intro h
    have h1 := congrArg bodyOf h
    rw [sector4_body (four_length _), hsp] at h1
    have h2 := congrArg (List.drop 92) h1
    rw [List.drop_append_of_le_length (by rw [List.length_take]; omega), List.drop_of_length_le (by rw [List.length_take]; omega), List.nil_append] at h2
    exact h2.symm
/-- what any bytes are read as -/
def readN (l : List Nat) : List Int × Int := if kindOf l = 73 ∧ fine4 (bodyOf l) = true then (four (bodyOf l), 0) else (zz 44, 3)
theorem readN_no {l : List Nat} (h : ¬ (kindOf l = 73 ∧ fine4 (bodyOf l) = true)) : readN l = (zz 44, 3) := by unfold readN; rw [if_neg h]
theorem readN_yes {l : List Nat} (h : kindOf l = 73) (h2 : fine4 (bodyOf l) = true) : readN l = (four (bodyOf l), 0) := by unfold readN; rw [if_pos ⟨h, h2⟩]
theorem readN_sector {L : List Int} (h : L.length = 44) (hm : mayN L 4) : readN (sector4 L) = (L, 0) := by
  have hf := (fine4_sector (sector4_octs L) (sector4_kind h)).2 ⟨by rw [four_sector h hm]; exact may4_iff.2 hm, by rw [four_sector h hm]⟩
  rw [readN_yes (sector4_kind h) hf, four_sector h hm]
theorem readN_length (l : List Nat) : (readN l).1.length = 44 := by
  unfold readN
  split
  · exact four_length _
  · rfl
end Go.Proofs.Ytfnhngnbaigccaa
