/-
  Slots of a directory: as lists, as bytes, as sectors.
-/
import Derived.Test.YtkeihpenelpblaaPa
import Derived.Test.YtkeihpenelpblaaPf
import Derived.Test.YtkeihpenelpblaaPb
import Derived.Test.YtkeihpenelpblaaZx
import Derived.Test.YtkeihpenelpblaaTx
namespace Go.Proofs.Ytkeihpenelpblaa
open Go.RowKit BigFrame

/-- a slot -/
structure Slt where
  ino : Int
  kind : Int
  name : ByteArray
theorem Slt.ext' {a b : Slt} (h1 : a.ino = b.ino) (h2 : a.kind = b.kind) (h3 : a.name = b.name) : a = b := by
  cases a; cases b; simp only at h1 h2 h3; rw [h1, h2, h3]
instance : DecidableEq Slt := fun a b => decidable_of_iff (a.ino = b.ino ∧ a.kind = b.kind ∧ a.name = b.name) ⟨fun ⟨h1, h2, h3⟩ => Slt.ext' h1 h2 h3, fun h => by rw [h]; exact ⟨rfl, rfl, rfl⟩⟩
/-- the zero one -/
def s0 : Slt := ⟨0, 0, ⟨#[]⟩⟩
/-- the n-th of some slots -/
def sl (L : List Slt) (k : Nat) : Slt := L.getD k s0
theorem sl_get {L : List Slt} {k : Nat} (h : k < L.length) : sl L k = L[k] := by simp [sl, List.getD, List.getElem?_eq_getElem h]
theorem sl_ext {L M : List Slt} (h : L.length = M.length) (hx : ∀ k, k < L.length → sl L k = sl M k) : L = M := by
  apply List.ext_getElem h
  intro k h1 h2
  rw [← sl_get h1, ← sl_get h2]
  exact hx k h1
theorem sl_left {L M : List Slt} {k : Nat} (h : k < L.length) : sl (L ++ M) k = sl L k := by simp [sl, List.getD, List.getElem?_append_left h]
theorem sl_right {L M : List Slt} {k : Nat} (h : L.length ≤ k) : sl (L ++ M) k = sl M (k - L.length) := by simp [sl, List.getD, List.getElem?_append_right h]
theorem sl_set {L : List Slt} {k j : Nat} {x : Slt} (h : k < L.length) : sl (L.set k x) j = if j = k then x else sl L j := by
  unfold sl
  simp only [List.getD, List.getElem?_set]
  by_cases e : k = j
  · subst e; simp [h]
  · rw [if_neg e, if_neg (Ne.symm e)]
theorem sl_rep (n k : Nat) : sl (List.replicate n s0) k = s0 := by
  unfold sl
  by_cases h : k < n <;> simp [List.getD, h]
theorem sl_cons_zero (s : Slt) (L : List Slt) : sl (s :: L) 0 = s := rfl
theorem sl_cons_succ (s : Slt) (L : List Slt) (k : Nat) : sl (s :: L) (k + 1) = sl L k := by simp [sl]
theorem sl_take {L : List Slt} {m k : Nat} (h : k < m) : sl (L.take m) k = sl L k := by simp [sl, List.getD, h]

/-- may a file have it? -/
def nameB (l : List Nat) : Bool := decide (l ≠ [46]) && (decide (l ≠ [46, 46]) && (decide (1 ≤ l.length) && (decide (l.length ≤ 24) && (decide (47 ∉ l) && decide (0 ∉ l)))))
/-- may it be? -/
def mayS (s : Slt) : Bool := decide (s = s0) || (decide (0 < s.ino) && (fitsN s.ino 2 && (decide (1 ≤ s.kind ∧ s.kind ≤ 3) && nameB (nb s.name))))
theorem nameB_len {l : List Nat} (h : nameB l = true) : 1 ≤ l.length ∧ l.length ≤ 24 := by
  unfold nameB at h
  simp only [Bool.and_eq_true, decide_eq_true_eq] at h
  exact ⟨h.2.2.1, h.2.2.2.1⟩
theorem nb_s0 : nb s0.name = [] := rfl
theorem mayS_len {s : Slt} (h : mayS s = true) : (nb s.name).length ≤ 24 := by
  unfold mayS at h
  simp only [Bool.or_eq_true, Bool.and_eq_true, decide_eq_true_eq] at h
  rcases h with rfl | h
  · rw [nb_s0]; simp
  · exact (nameB_len h.2.2.2).2
theorem mayS_ino {s : Slt} (h : mayS s = true) : 0 ≤ s.ino ∧ s.ino < 65536 := by
  unfold mayS at h
  simp only [Bool.or_eq_true, Bool.and_eq_true, decide_eq_true_eq, fitsN] at h
  rcases h with rfl | h
  · exact ⟨by decide, by decide⟩
  · exact h.2.1
theorem mayS_kind {s : Slt} (h : mayS s = true) : 0 ≤ s.kind ∧ s.kind < 256 := by
  unfold mayS at h
  simp only [Bool.or_eq_true, Bool.and_eq_true, decide_eq_true_eq] at h
  rcases h with rfl | h
  · exact ⟨by decide, by decide⟩
  · have := h.2.2.1; omega

/-- the first that p takes; -1 -/
def firstS (p : Slt → Bool) : List Slt → Int
  | [] => -1
  | s :: r => if p s then 0 else if firstS p r = -1 then -1 else firstS p r + 1
theorem firstS_ge (p : Slt → Bool) : ∀ L, -1 ≤ firstS p L
  | [] => Int.le_refl _
  | s :: r => by
    have := firstS_ge p r
    unfold firstS
    split
    · decide
    · split <;> omega
theorem firstS_none {p : Slt → Bool} : ∀ {L : List Slt}, (∀ k, k < L.length → p (sl L k) = false) → firstS p L = -1
  | [], _ => rfl
  | s :: r, h => by
    have h0 := h 0 (by simp)
    rw [sl_cons_zero] at h0
    have h1 := firstS_none (p := p) (L := r) fun k hk => by
      have := h (k + 1) (by simpa using hk)
      rwa [sl_cons_succ] at this
    unfold firstS
    rw [h0, h1]; rfl
theorem firstS_at {p : Slt → Bool} : ∀ {L : List Slt} {k : Nat}, k < L.length → (∀ j, j < k → p (sl L j) = false) → p (sl L k) = true → firstS p L = (k : Int)
  | [], _, h, _, _ => by simp at h
  | s :: r, 0, _, _, h => by
    rw [sl_cons_zero] at h
    unfold firstS; rw [h]; rfl
  | s :: r, k + 1, hk, hl, h => by
    have h0 := hl 0 (by omega)
    rw [sl_cons_zero] at h0
    rw [sl_cons_succ] at h
    have h1 := firstS_at (p := p) (L := r) (k := k) (by simpa using hk) (fun j hj => by
      have := hl (j + 1) (by omega)
      rwa [sl_cons_succ] at this) h
    unfold firstS
    rw [h0, h1]
    simp only [Bool.false_eq_true, if_false]
    rw [if_neg (by omega)]
    omega
theorem firstS_is (p : Slt → Bool) (L : List Slt) : (firstS p L = -1 ∧ ∀ k, k < L.length → p (sl L k) = false) ∨ ∃ k : Nat, k < L.length ∧ firstS p L = (k : Int) ∧ p (sl L k) = true ∧ ∀ j, j < k → p (sl L j) = false := by
  by_cases h : ∃ k, k < L.length ∧ p (sl L k) = true
  · have key : ∀ n, (∃ k, k < n ∧ k < L.length ∧ p (sl L k) = true) → ∃ k, k < L.length ∧ p (sl L k) = true ∧ ∀ j, j < k → p (sl L j) = false := by
      intro n
      induction n with
      | zero => rintro ⟨k, hk, _⟩; omega
      | succ n ih =>
        rintro ⟨k, hk, hl, hp⟩
        by_cases hb : ∃ k, k < n ∧ k < L.length ∧ p (sl L k) = true
        · exact ih hb
        · have e : k = n := by
            apply Classical.byContradiction
            intro e
            exact hb ⟨k, by omega, hl, hp⟩
          subst e
          refine ⟨k, hl, hp, fun j hj => ?_⟩
          cases hpj : p (sl L j)
          · rfl
          · exact absurd ⟨j, hj, by omega, hpj⟩ hb
    obtain ⟨k, hl, hp⟩ := h
    obtain ⟨k, hl, hp, hj⟩ := key (k + 1) ⟨k, by omega, hl, hp⟩
    exact .inr ⟨k, hl, firstS_at hl hj hp, hp, hj⟩
  · refine .inl ?_
    have hn : ∀ k, k < L.length → p (sl L k) = false := fun k hk => by
      cases hp : p (sl L k)
      · rfl
      · exact absurd ⟨k, hk, hp⟩ h
    exact ⟨firstS_none hn, hn⟩
/-- an entry of that name; where nothing stands -/
def hasS (nm : ByteArray) (s : Slt) : Bool := decide (s.ino ≠ 0) && decide (s.name = nm)
def findS (L : List Slt) (nm : ByteArray) : Int := firstS (hasS nm) L
def freeS (L : List Slt) : Int := firstS (fun s => decide (s.ino = 0)) L

/-- may the k-th stand there? may all of them? -/
def okAt (L : List Slt) (k : Nat) : Bool := mayS (sl L k) && !(decide ((sl L k).ino ≠ 0) && decide (findS L (sl L k).name ≠ (k : Int)))
def standP (L : List Slt) (n : Nat) : Prop := ∀ k, k < n → okAt L k = true
def stand4 (L : List Slt) : Bool := (List.range 4).all fun k => okAt L k
theorem stand4_iff {L : List Slt} : stand4 L = true ↔ standP L 4 := by unfold stand4 standP; rw [List.all_eq_true]; simp only [List.mem_range]
theorem stand4_no {L : List Slt} {k : Nat} (hk : k < 4) (h : okAt L k = false) : stand4 L = false := by
  cases h2 : stand4 L
  · rfl
  · rw [stand4_iff.1 h2 k hk] at h; cases h
theorem okAt_may {L : List Slt} {k : Nat} (h : okAt L k = true) : mayS (sl L k) = true := by
  unfold okAt at h; rw [Bool.and_eq_true] at h; exact h.1

/-- a text behind its length; a slot's bytes -/
def spT (l : List Nat) : List Nat := l.length :: (l ++ zs (24 - l.length))
def spS (s : Slt) : List Nat := be 2 s.ino.toNat ++ (be 1 s.kind.toNat ++ spT (nb s.name))
theorem spT_length {l : List Nat} (h : l.length ≤ 24) : (spT l).length = 25 := by
  unfold spT; rw [List.length_cons, List.length_append, zs_length]; omega
theorem spS_length {s : Slt} (h : (nb s.name).length ≤ 24) : (spS s).length = 28 := by
  unfold spS; rw [List.length_append, List.length_append, be_length, be_length, spT_length h]
theorem spT_octs {l : List Nat} (h : l.length ≤ 24) (ho : Octs l) : Octs (spT l) := .cons (by omega) (ho.append (.rep _ 0 (by omega)))
theorem spS_octs {s : Slt} (h : (nb s.name).length ≤ 24) : Octs (spS s) := (be_octs _ _).append ((be_octs _ _).append (spT_octs h (nb_octs _)))
/-- the bytes of the first n -/
def spD (L : List Slt) : Nat → List Nat
  | 0 => []
  | n + 1 => spD L n ++ spS (sl L n)
def mayN (L : List Slt) (n : Nat) : Prop := ∀ k, k < n → mayS (sl L k) = true
theorem spD_length {L : List Slt} : ∀ {n : Nat}, mayN L n → (spD L n).length = 28 * n
  | 0, _ => rfl
  | n + 1, h => by rw [spD, List.length_append, spD_length (n := n) (fun k hk => h k (by omega)), spS_length (mayS_len (h n (by omega)))]; omega
theorem spD_octs {L : List Slt} : ∀ {n : Nat}, mayN L n → Octs (spD L n)
  | 0, _ => .nil
  | n + 1, h => (spD_octs (n := n) (fun k hk => h k (by omega))).append (spS_octs (mayS_len (h n (by omega))))
theorem standP_may {L : List Slt} {n : Nat} (h : standP L n) : mayN L n := fun k hk => okAt_may (h k hk)
theorem drop_spD {L : List Slt} (r : List Nat) {k : Nat} : ∀ {n : Nat}, mayN L n → k < n → ((spD L n ++ r).drop (k * 28)).take 28 = spS (sl L k)
  | 0, _, h => by omega
  | n + 1, hm, h => by
    have h1 := spD_length (n := n) (fun k hk => hm k (by omega))
    have h2 := spS_length (mayS_len (hm n (by omega)))
    rw [spD, List.append_assoc]
    by_cases e : k = n
    · subst e
      rw [List.drop_append_of_le_length (by omega), List.drop_of_length_le (by omega), List.nil_append, List.take_append_of_le_length (by omega), List.take_of_length_le (by omega)]
    · exact drop_spD _ (fun k hk => hm k (by omega)) (by omega)

/-- what 28 bytes tell, as the program does; is there a name? -/
def nmOf (n : Nat) (b : List Nat) : ByteArray := strOf ((b.drop 4).take n)
def tlS (b : List Nat) : Slt := ⟨((rdN (b.take 2) : Nat) : Int), ((rdN ((b.drop 2).take 1) : Nat) : Int), nmOf (bz b 3) b⟩
def okT (b : List Nat) : Bool := decide (bz b 3 ≤ 24) && blanked (b.drop (4 + bz b 3))
/-- as the document does -/
def tlR (b : List Nat) : Slt := ⟨((rdN (b.take 2) : Nat) : Int), ((rdN ((b.drop 2).take 1) : Nat) : Int), nmOf (min (bz b 3) 24) b⟩
theorem tlR_ok {b : List Nat} (h : okT b = true) : tlR b = tlS b := by
  unfold okT at h
  rw [Bool.and_eq_true, decide_eq_true_eq] at h
  unfold tlR tlS
  rw [Nat.min_eq_left h.1]
theorem nb_nmOf {b : List Nat} (ho : Octs b) (n : Nat) : nb (nmOf n b) = (b.drop 4).take n := nb_strOf ((ho.drop 4).take n)
/-- the bytes of what was told -/
theorem spS_tl {b : List Nat} (ho : Octs b) (hl : b.length = 28) (h : okT b = true) : spS (tlS b) = b := by
  unfold okT at h
  rw [Bool.and_eq_true, decide_eq_true_eq] at h
  obtain ⟨h1, h2⟩ := h
  unfold blanked at h2
  rw [decide_eq_true_eq, List.length_drop, hl] at h2
  unfold spS tlS
  simp only [Int.toNat_natCast]
  rw [nb_nmOf ho, be_rdN 2 (ho.take 2) (by rw [List.length_take]; omega), be_rdN 1 ((ho.drop 2).take 1) (by rw [List.length_take, List.length_drop]; omega)]
  unfold spT
  have e3 : ((b.drop 4).take (bz b 3)).length = bz b 3 := by rw [List.length_take, List.length_drop]; omega
  rw [e3]
  have e4 : b.drop 3 = bz b 3 :: b.drop 4 := by rw [List.drop_eq_getElem_cons (by omega), bz_get (by omega)]
  have e5 : b.drop 4 = (b.drop 4).take (bz b 3) ++ zs (24 - bz b 3) := by
    have := (List.take_append_drop (bz b 3) (b.drop 4)).symm
    rw [List.drop_drop, h2] at this
    rw [show 24 - bz b 3 = 28 - (4 + bz b 3) by omega]
    exact this
  rw [← e5, ← e4]
  have e6 : b.drop 2 = (b.drop 2).take 1 ++ b.drop 3 := by
    have := (List.take_append_drop 1 (b.drop 2)).symm
    rwa [List.drop_drop] at this
  rw [← e6, List.take_append_drop]
/-- what a slot's bytes tell -/
theorem spT_first (l : List Nat) : bz (spT l) 0 = l.length := rfl
theorem spS_parts (s : Slt) : (spS s).take 2 = be 2 s.ino.toNat ∧ ((spS s).drop 2).take 1 = be 1 s.kind.toNat ∧ bz (spS s) 3 = (nb s.name).length ∧ (spS s).drop 4 = nb s.name ++ zs (24 - (nb s.name).length) := by
  have h2 := be_length 2 s.ino.toNat
  have h1 := be_length 1 s.kind.toNat
  have d2 : (spS s).drop 2 = be 1 s.kind.toNat ++ spT (nb s.name) := by
    unfold spS; rw [List.drop_append_of_le_length (by omega), List.drop_of_length_le (by omega), List.nil_append]
  have d3 : (spS s).drop 3 = spT (nb s.name) := by
    have : (spS s).drop 3 = ((spS s).drop 2).drop 1 := by rw [List.drop_drop]
    rw [this, d2, List.drop_append_of_le_length (by omega), List.drop_of_length_le (by omega), List.nil_append]
  refine ⟨?_, ?_, ?_, ?_⟩
  · unfold spS; rw [List.take_append_of_le_length (by omega), List.take_of_length_le (by omega)]
  · rw [d2, List.take_append_of_le_length (by omega), List.take_of_length_le (by omega)]
  · have : bz (spS s) 3 = bz ((spS s).drop 3) 0 := by rw [bz_drop]
    rw [this, d3, spT_first]
  · have : (spS s).drop 4 = ((spS s).drop 3).drop 1 := by rw [List.drop_drop]
    rw [this, d3]; rfl
theorem rdN_two {x : Int} (h : 0 ≤ x ∧ x < 65536) : ((rdN (be 2 x.toNat) : Nat) : Int) = x := by
  rw [rdN_be 2 (by have e : (256 ^ 2 : Nat) = 65536 := rfl; omega)]; omega
theorem rdN_one {x : Int} (h : 0 ≤ x ∧ x < 256) : ((rdN (be 1 x.toNat) : Nat) : Int) = x := by
  rw [rdN_be 1 (by have e : (256 ^ 1 : Nat) = 256 := rfl; omega)]; omega
theorem tl_spS {s : Slt} (h : mayS s = true) : tlS (spS s) = s ∧ okT (spS s) = true := by
  obtain ⟨h1, h2, h3, h4⟩ := spS_parts s
  have hl := mayS_len h
  constructor
  · refine Slt.ext' ?_ ?_ ?_
    · show ((rdN ((spS s).take 2) : Nat) : Int) = s.ino
      rw [h1, rdN_two (mayS_ino h)]
    · show ((rdN (((spS s).drop 2).take 1) : Nat) : Int) = s.kind
      rw [h2, rdN_one (mayS_kind h)]
    · show nmOf (bz (spS s) 3) (spS s) = s.name
      unfold nmOf
      rw [h3, h4, List.take_append_of_le_length (Nat.le_refl _), List.take_length, strOf_nb]
  · unfold okT
    rw [h3, Bool.and_eq_true, decide_eq_true_eq]
    refine ⟨hl, ?_⟩
    have e : (spS s).drop (4 + (nb s.name).length) = zs (24 - (nb s.name).length) := by
      rw [← List.drop_drop, h4, List.drop_append_of_le_length (Nat.le_refl _), List.drop_length, List.nil_append]
    rw [e]
    unfold blanked
    rw [zs_length, decide_eq_true_eq]

/-- the k-th 28 bytes -/
def pc (m : List Nat) (k : Nat) : List Nat := (m.drop (k * 28)).take 28
theorem pc_length {m : List Nat} (h : m.length = 123) {k : Nat} (hk : k < 4) : (pc m k).length = 28 := by unfold pc; rw [List.length_take, List.length_drop]; omega
theorem pc_octs {m : List Nat} (h : Octs m) (k : Nat) : Octs (pc m k) := (h.drop _).take _
/-- what the first n tell -/
def tlD (f : List Nat → Slt) (m : List Nat) : Nat → List Slt
  | 0 => []
  | n + 1 => tlD f m n ++ [f (pc m n)]
theorem tlD_length (f : List Nat → Slt) (m : List Nat) : ∀ n, (tlD f m n).length = n
  | 0 => rfl
  | n + 1 => by rw [tlD, List.length_append, tlD_length f m n]; rfl
theorem sl_tlD' (f : List Nat → Slt) (m : List Nat) (r : List Slt) {k : Nat} : ∀ {n : Nat}, k < n → sl (tlD f m n ++ r) k = f (pc m k)
  | 0, h => by omega
  | n + 1, h => by
    rw [tlD, List.append_assoc]
    by_cases e : k = n
    · subst e
      rw [sl_right (by rw [tlD_length]; omega), tlD_length, Nat.sub_self]
      rfl
    · exact sl_tlD' f m _ (by omega)
theorem sl_tlD (f : List Nat → Slt) (m : List Nat) {k n : Nat} (h : k < n) : sl (tlD f m n) k = f (pc m k) := by
  have := sl_tlD' f m [] h
  rwa [List.append_nil] at this
theorem tlD_congr {f g : List Nat → Slt} {m : List Nat} : ∀ {n : Nat}, (∀ k, k < n → f (pc m k) = g (pc m k)) → tlD f m n = tlD g m n
  | 0, _ => rfl
  | n + 1, h => by rw [tlD, tlD, tlD_congr (n := n) (fun k hk => h k (by omega)), h n (by omega)]
theorem spD_told {m : List Nat} {L : List Slt} : ∀ (n : Nat), n * 28 ≤ m.length → (∀ k, k < n → spS (sl L k) = pc m k) → spD L n = m.take (n * 28)
  | 0, _, _ => by simp [spD]
  | n + 1, h, hL => by
    rw [spD, spD_told n (by omega) (fun k hk => hL k (by omega)), hL n (by omega)]
    unfold pc
    rw [show (n + 1) * 28 = n * 28 + 28 by omega, List.take_add]

/-- a block of them -/
def secD (L : List Slt) : List Nat := sealed 68 (spD L 4)
theorem secD_length {L : List Slt} (h : mayN L 4) : (secD L).length = 128 := sealed_length (by rw [spD_length h]; omega)
theorem secD_octs {L : List Slt} (h : mayN L 4) : Octs (secD L) := sealed_octs (by omega) (spD_octs h)
theorem secD_kind {L : List Slt} (h : mayN L 4) : kindOf (secD L) = 68 := kindOf_sealed (by rw [spD_length h]; omega)
theorem secD_body {L : List Slt} (h : mayN L 4) : bodyOf (secD L) = spD L 4 ++ zs 11 := by
  have := bodyOf_sealed (kind := 68) (l := spD L 4) (by rw [spD_length h]; omega)
  rw [spD_length h] at this
  exact this
theorem pc_sec {L : List Slt} (h : mayN L 4) {k : Nat} (hk : k < 4) : pc (bodyOf (secD L)) k = spS (sl L k) := by
  unfold pc; rw [secD_body h, drop_spD _ h hk]
/-- does the body tell four that may stand there, and nothing more? -/
def okD (m : List Nat) : Bool := (List.range 4).all fun k => okT (pc m k)
theorem okD_iff {m : List Nat} : okD m = true ↔ ∀ k, k < 4 → okT (pc m k) = true := by unfold okD; rw [List.all_eq_true]; simp only [List.mem_range]
theorem okD_no {m : List Nat} {k : Nat} (hk : k < 4) (h : okT (pc m k) = false) : okD m = false := by
  cases h2 : okD m
  · rfl
  · rw [okD_iff.1 h2 k hk] at h; cases h
def fineD (m : List Nat) : Bool := okD m && (blanked (m.drop 112) && stand4 (tlD tlS m 4))
def readD (l : List Nat) : List Slt × Int := if kindOf l = 68 ∧ fineD (bodyOf l) = true then (tlD tlS (bodyOf l) 4, 0) else (List.replicate 4 s0, 3)
theorem readD_no {l : List Nat} (h : ¬ (kindOf l = 68 ∧ fineD (bodyOf l) = true)) : readD l = (List.replicate 4 s0, 3) := by unfold readD; rw [if_neg h]
theorem readD_yes {l : List Nat} (h : kindOf l = 68) (h2 : fineD (bodyOf l) = true) : readD l = (tlD tlS (bodyOf l) 4, 0) := by unfold readD; rw [if_pos ⟨h, h2⟩]
theorem readD_length (l : List Nat) : (readD l).1.length = 4 := by
  unfold readD
  split
  · exact tlD_length _ _ _
  · simp
theorem tl_secD {L : List Slt} (hl : L.length = 4) (h : mayN L 4) : tlD tlS (bodyOf (secD L)) 4 = L := by
  refine sl_ext (by rw [tlD_length, hl]) fun k hk => ?_
  rw [tlD_length] at hk
  rw [sl_tlD _ _ hk, pc_sec h hk, (tl_spS (h k hk)).1]
theorem readD_sec {L : List Slt} (hl : L.length = 4) (h : standP L 4) : readD (secD L) = (L, 0) := by
  have hm := standP_may h
  have ht := tl_secD hl hm
  have hf : fineD (bodyOf (secD L)) = true := by
    unfold fineD
    rw [ht, Bool.and_eq_true, Bool.and_eq_true]
    refine ⟨okD_iff.2 fun k hk => by rw [pc_sec hm hk]; exact (tl_spS (hm k hk)).2, ?_, stand4_iff.2 h⟩
    have hb := spD_length hm
    rw [secD_body hm, List.drop_append_of_le_length (by omega), List.drop_of_length_le (by omega), List.nil_append]
    unfold blanked
    rw [zs_length, decide_eq_true_eq]
  rw [readD_yes (secD_kind hm) hf, ht]
/-- the document's way: it is the sector of what it tells -/
theorem fineD_sec {l : List Nat} (ho : Octs l) (hk : kindOf l = 68) : fineD (bodyOf l) = true ↔ (stand4 (tlD tlR (bodyOf l) 4) = true ∧ secD (tlD tlR (bodyOf l) 4) = l) := by
  have hl : l.length = 128 := kindOf_len (by omega)
  have hf : fitsB l = true ∧ bz l 0 = 68 := by
    unfold kindOf at hk
    split at hk
    · rename_i h; exact ⟨h.2, hk⟩
    · omega
  have hs : sealed 68 (bodyOf l) = l := by have := (sealed_body ho hl).2 hf.1; rwa [hf.2] at this
  have hbl := bodyOf_length hl
  have hbo : Octs (bodyOf l) := (ho.drop 1).take 123
  constructor
  · intro h
    unfold fineD at h
    rw [Bool.and_eq_true, Bool.and_eq_true] at h
    obtain ⟨h1, h2, h3⟩ := h
    have e : tlD tlR (bodyOf l) 4 = tlD tlS (bodyOf l) 4 := tlD_congr fun k hk => tlR_ok (okD_iff.1 h1 k hk)
    rw [e]
    refine ⟨h3, ?_⟩
    have hsp : spD (tlD tlS (bodyOf l) 4) 4 = (bodyOf l).take 112 := spD_told 4 (by omega) fun k hk => by
      rw [sl_tlD _ _ hk]; exact spS_tl (pc_octs hbo k) (pc_length hbl hk) (okD_iff.1 h1 k hk)
    unfold secD
    rw [hsp]
    unfold blanked at h2
    rw [decide_eq_true_eq, List.length_drop, hbl] at h2
    have e1 := (List.take_append_drop 112 (bodyOf l)).symm
    rw [h2] at e1
    have e2 := sealed_pad (kind := 68) (k := 11) (l := (bodyOf l).take 112) (by rw [List.length_take]; omega)
    rw [← e2]
    rw [e1] at hs
    exact hs
  · rintro ⟨h1, h2⟩
    have hst := stand4_iff.1 h1
    have hm := standP_may hst
    have hp : ∀ k, k < 4 → okT (pc (bodyOf l) k) = true := fun k hk => by
      have e := pc_sec hm hk
      rw [h2, sl_tlD _ _ hk] at e
      have hmk := hm k hk
      rw [sl_tlD _ _ hk] at hmk
      have := (tl_spS hmk).2
      rwa [← e] at this
    have e : tlD tlR (bodyOf l) 4 = tlD tlS (bodyOf l) 4 := tlD_congr fun k hk => tlR_ok (hp k hk)
    unfold fineD
    rw [Bool.and_eq_true, Bool.and_eq_true]
    refine ⟨okD_iff.2 hp, ?_, by rw [← e]; exact h1⟩
    have hb := spD_length hm
    have e3 := secD_body hm
    rw [h2] at e3
    rw [e3, List.drop_append_of_le_length (by omega), List.drop_of_length_le (by omega), List.nil_append]
    unfold blanked
    rw [zs_length, decide_eq_true_eq]
end Go.Proofs.Ytkeihpenelpblaa
