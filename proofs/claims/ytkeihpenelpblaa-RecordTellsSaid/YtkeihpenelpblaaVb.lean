/-
  A record of a rename: as parts, as bytes, as a sector; what any bytes are read as. A record in memory: loaded, stored, made, compared; as the walks meet it. Its four numbers as an array.
-/
import Derived.Test.YtkeihpenelpblaaEa
import Derived.Test.YtkeihpenelpblaaPy
import Derived.Test.YtkeihpenelpblaaAi
import Derived.Test.YtkeihpenelpblaaAw
import Derived.Test.YtkeihpenelpblaaAv
import Derived.Test.YtkeihpenelpblaaTe
import Derived.Deep.WholeRow
namespace Go.Proofs.Ytkeihpenelpblaa
open Go.RowKit BigFrame

/-- a record -/
structure Rcd where
  on : Bool
  fr : Int
  tt : Int
  io : Int
  od : Int
  fn : ByteArray
  tn : ByteArray
theorem Rcd.ext' {a b : Rcd} (h1 : a.on = b.on) (h2 : a.fr = b.fr) (h3 : a.tt = b.tt) (h4 : a.io = b.io) (h5 : a.od = b.od) (h6 : a.fn = b.fn) (h7 : a.tn = b.tn) : a = b := by
  cases a; cases b; simp only at h1 h2 h3 h4 h5 h6 h7; rw [h1, h2, h3, h4, h5, h6, h7]
instance : DecidableEq Rcd := fun a b => decidable_of_iff (a.on = b.on ∧ a.fr = b.fr ∧ a.tt = b.tt ∧ a.io = b.io ∧ a.od = b.od ∧ a.fn = b.fn ∧ a.tn = b.tn) ⟨fun ⟨h1, h2, h3, h4, h5, h6, h7⟩ => Rcd.ext' h1 h2 h3 h4 h5 h6 h7, fun h => by rw [h]; exact ⟨rfl, rfl, rfl, rfl, rfl, rfl, rfl⟩⟩
/-- the zero one -/
def r0 : Rcd := ⟨false, 0, 0, 0, 0, ⟨#[]⟩, ⟨#[]⟩⟩
/-- its numbers, in their order -/
def numR (r : Rcd) : List Int := [r.fr, r.tt, r.io, r.od]
theorem numR_length (r : Rcd) : (numR r).length = 4 := rfl
/-- may the first n be? may all of them? -/
def okN (L : List Int) (n : Nat) : Prop := ∀ k, k < n → fitsN (zi L k) 2 = true ∧ (zi L k = 0 → k = 3)
instance (L : List Int) (n : Nat) : Decidable (okN L n) := inferInstanceAs (Decidable (∀ k, k < n → fitsN (zi L k) 2 = true ∧ (zi L k = 0 → k = 3)))
def numB (L : List Int) : Bool := decide (okN L 4) && decide (zi L 3 ≠ zi L 2)
theorem numB_no {L : List Int} {k : Nat} (hk : k < 4) (h : ¬ (fitsN (zi L k) 2 = true ∧ (zi L k = 0 → k = 3))) : numB L = false := by
  unfold numB
  rw [decide_eq_false (fun hn => h (hn k hk)), Bool.false_and]
theorem numB_yes {L : List Int} (h : okN L 4) : numB L = decide (zi L 3 ≠ zi L 2) := by
  unfold numB
  rw [decide_eq_true h, Bool.true_and]
/-- may it be? -/
def mayR (r : Rcd) : Bool := decide (r = r0) || (r.on && (numB (numR r) && (nameB (nb r.fn) && nameB (nb r.tn))))
theorem mayR_zero : mayR r0 = true := by unfold mayR; rw [decide_eq_true rfl]; rfl
theorem mayR_not {r : Rcd} (h : r ≠ r0) : mayR r = (r.on && (numB (numR r) && (nameB (nb r.fn) && nameB (nb r.tn)))) := by
  unfold mayR; rw [decide_eq_false h, Bool.false_or]
theorem fits2_range {x : Int} (h : fitsN x 2 = true) : 0 ≤ x ∧ x < 65536 := by
  unfold fitsN at h
  rw [decide_eq_true_eq] at h
  exact h
theorem numR_two {r : Rcd} (h : numB (numR r) = true) : (1 ≤ r.fr ∧ r.fr ≤ 65535) ∧ (1 ≤ r.tt ∧ r.tt ≤ 65535) ∧ (1 ≤ r.io ∧ r.io ≤ 65535) ∧ (0 ≤ r.od ∧ r.od ≤ 65535) ∧ r.od ≠ r.io := by
  unfold numB at h
  rw [Bool.and_eq_true, decide_eq_true_eq, decide_eq_true_eq] at h
  have h0 := h.1 0 (by omega)
  have h1 := h.1 1 (by omega)
  have h2 := h.1 2 (by omega)
  have h3 := h.1 3 (by omega)
  have e0 : zi (numR r) 0 = r.fr := rfl
  have e1 : zi (numR r) 1 = r.tt := rfl
  have e2 : zi (numR r) 2 = r.io := rfl
  have e3 : zi (numR r) 3 = r.od := rfl
  rw [e0] at h0
  rw [e1] at h1
  rw [e2] at h2
  rw [e3] at h3
  have f0 := fits2_range h0.1
  have f1 := fits2_range h1.1
  have f2 := fits2_range h2.1
  have f3 := fits2_range h3.1
  have g0 : r.fr ≠ 0 := fun e => absurd (h0.2 e) (by decide)
  have g1 : r.tt ≠ 0 := fun e => absurd (h1.2 e) (by decide)
  have g2 : r.io ≠ 0 := fun e => absurd (h2.2 e) (by decide)
  have g3 := h.2
  rw [e3, e2] at g3
  refine ⟨⟨?_, ?_⟩, ⟨?_, ?_⟩, ⟨?_, ?_⟩, ⟨?_, ?_⟩, g3⟩ <;> omega
theorem fits2_of {x : Int} (h : 0 ≤ x ∧ x ≤ 65535) : fitsN x 2 = true := by
  unfold fitsN
  rw [decide_eq_true_eq]
  have e : ((256 ^ 2 : Nat) : Int) = 65536 := rfl
  omega
theorem numR_of {r : Rcd} (h : (1 ≤ r.fr ∧ r.fr ≤ 65535) ∧ (1 ≤ r.tt ∧ r.tt ≤ 65535) ∧ (1 ≤ r.io ∧ r.io ≤ 65535) ∧ (0 ≤ r.od ∧ r.od ≤ 65535) ∧ r.od ≠ r.io) : numB (numR r) = true := by
  obtain ⟨h0, h1, h2, h3, h4⟩ := h
  unfold numB
  rw [Bool.and_eq_true, decide_eq_true_eq, decide_eq_true_eq]
  refine ⟨fun k hk => ?_, h4⟩
  have hc : k = 0 ∨ k = 1 ∨ k = 2 ∨ k = 3 := by omega
  rcases hc with rfl | rfl | rfl | rfl
  · exact ⟨fits2_of (x := r.fr) (by omega), fun e => by have e' : r.fr = 0 := e; omega⟩
  · exact ⟨fits2_of (x := r.tt) (by omega), fun e => by have e' : r.tt = 0 := e; omega⟩
  · exact ⟨fits2_of (x := r.io) (by omega), fun e => by have e' : r.io = 0 := e; omega⟩
  · exact ⟨fits2_of (x := r.od) (by omega), fun _ => rfl⟩
theorem mayR_parts {r : Rcd} (h : mayR r = true) : (0 ≤ r.fr ∧ r.fr < 65536) ∧ (0 ≤ r.tt ∧ r.tt < 65536) ∧ (0 ≤ r.io ∧ r.io < 65536) ∧ (0 ≤ r.od ∧ r.od < 65536) ∧ (nb r.fn).length ≤ 24 ∧ (nb r.tn).length ≤ 24 := by
  by_cases e : r = r0
  · subst e
    exact ⟨by decide, by decide, by decide, by decide, by decide, by decide⟩
  · rw [mayR_not e, Bool.and_eq_true, Bool.and_eq_true, Bool.and_eq_true] at h
    have hn := numR_two h.2.1
    have l1 := nameB_len h.2.2.1
    have l2 := nameB_len h.2.2.2
    refine ⟨?_, ?_, ?_, ?_, l1.2, l2.2⟩ <;> omega

/-- its bytes: 59 of them -/
def onN (r : Rcd) : Nat := if r.on then 1 else 0
def spA (r : Rcd) : List Nat := onN r :: (be 2 r.fr.toNat ++ (be 2 r.tt.toNat ++ (be 2 r.io.toNat ++ be 2 r.od.toNat)))
def spR (r : Rcd) : List Nat := spA r ++ (spT (nb r.fn) ++ spT (nb r.tn))
theorem onN_le (r : Rcd) : onN r ≤ 1 := by unfold onN; split <;> omega
theorem spA_length (r : Rcd) : (spA r).length = 9 := by
  unfold spA
  rw [List.length_cons, List.length_append, List.length_append, List.length_append, be_length, be_length, be_length, be_length]
theorem spA_octs (r : Rcd) : Octs (spA r) := .cons (by have := onN_le r; omega) ((be_octs _ _).append ((be_octs _ _).append ((be_octs _ _).append (be_octs _ _))))
def lenR (r : Rcd) : Prop := (nb r.fn).length ≤ 24 ∧ (nb r.tn).length ≤ 24
theorem mayR_len {r : Rcd} (h : mayR r = true) : lenR r := (mayR_parts h).2.2.2.2
theorem spR_length {r : Rcd} (h : lenR r) : (spR r).length = 59 := by
  unfold spR; rw [List.length_append, List.length_append, spA_length, spT_length h.1, spT_length h.2]
theorem spR_octs {r : Rcd} (h : lenR r) : Octs (spR r) := (spA_octs r).append ((spT_octs h.1 (nb_octs _)).append (spT_octs h.2 (nb_octs _)))
def secR (r : Rcd) : List Nat := sealed 82 (spR r)
theorem secR_length {r : Rcd} (h : lenR r) : (secR r).length = 128 := sealed_length (by rw [spR_length h]; omega)
theorem secR_octs {r : Rcd} (h : lenR r) : Octs (secR r) := sealed_octs (by omega) (spR_octs h)
theorem secR_kind {r : Rcd} (h : lenR r) : kindOf (secR r) = 82 := kindOf_sealed (by rw [spR_length h]; omega)
theorem secR_body {r : Rcd} (h : lenR r) : bodyOf (secR r) = spR r ++ zs 64 := by
  have := bodyOf_sealed (kind := 82) (l := spR r) (by rw [spR_length h]; omega)
  rw [spR_length h] at this
  exact this

/-- the k-th number that a body tells; its names' bytes -/
def nmT (m : List Nat) (k : Nat) : Int := ((rdN ((m.drop (1 + k * 2)).take 2) : Nat) : Int)
def nf (m : List Nat) : List Nat := (m.drop 9).take 25
def nt (m : List Nat) : List Nat := (m.drop 34).take 25
def numT (m : List Nat) : List Int := [nmT m 0, nmT m 1, nmT m 2, nmT m 3]
/-- what the program tells of a body; is it spelled so? -/
def tlM (m : List Nat) : Rcd := ⟨decide (bz m 0 = 1), nmT m 0, nmT m 1, nmT m 2, nmT m 3, gtS 25 (nf m), gtS 25 (nt m)⟩
def okM (m : List Nat) : Bool := decide (bz m 0 ≤ 1) && (gtOk 25 (nf m) && (gtOk 25 (nt m) && blanked (m.drop 59)))
/-- as the document does -/
def tlD' (m : List Nat) : Rcd := ⟨decide (bz m 0 = 1), nmT m 0, nmT m 1, nmT m 2, nmT m 3, strOf ((m.drop 10).take (min (bz m 9) 24)), strOf ((m.drop 35).take (min (bz m 34) 24))⟩
theorem bz_nf (m : List Nat) : bz (nf m) 0 = bz m 9 := by unfold nf; rw [bz_take (by omega), bz_drop]
theorem bz_nt (m : List Nat) : bz (nt m) 0 = bz m 34 := by unfold nt; rw [bz_take (by omega), bz_drop]
theorem nf_length {m : List Nat} (h : m.length = 123) : (nf m).length = 25 := by unfold nf; rw [List.length_take, List.length_drop]; omega
theorem nt_length {m : List Nat} (h : m.length = 123) : (nt m).length = 25 := by unfold nt; rw [List.length_take, List.length_drop]; omega
theorem nf_octs {m : List Nat} (h : Octs m) : Octs (nf m) := (h.drop 9).take 25
theorem nt_octs {m : List Nat} (h : Octs m) : Octs (nt m) := (h.drop 34).take 25
theorem gtS_nf {m : List Nat} (h : gtOk 25 (nf m) = true) : gtS 25 (nf m) = strOf ((m.drop 10).take (bz m 9)) ∧ bz m 9 ≤ 24 := by
  have h2 := h
  unfold gtOk at h2
  rw [Bool.and_eq_true, decide_eq_true_eq, bz_nf] at h2
  have hl : bz m 9 ≤ 24 := by omega
  refine ⟨?_, hl⟩
  unfold gtS
  rw [if_pos h, bz_nf]
  unfold nf
  rw [List.drop_take, List.drop_drop, List.take_take, Nat.min_eq_left (by omega)]
theorem gtS_nt {m : List Nat} (h : gtOk 25 (nt m) = true) : gtS 25 (nt m) = strOf ((m.drop 35).take (bz m 34)) ∧ bz m 34 ≤ 24 := by
  have h2 := h
  unfold gtOk at h2
  rw [Bool.and_eq_true, decide_eq_true_eq, bz_nt] at h2
  have hl : bz m 34 ≤ 24 := by omega
  refine ⟨?_, hl⟩
  unfold gtS
  rw [if_pos h, bz_nt]
  unfold nt
  rw [List.drop_take, List.drop_drop, List.take_take, Nat.min_eq_left (by omega)]
theorem okM_parts {m : List Nat} (h : okM m = true) : bz m 0 ≤ 1 ∧ gtOk 25 (nf m) = true ∧ gtOk 25 (nt m) = true ∧ blanked (m.drop 59) = true := by
  unfold okM at h
  rw [Bool.and_eq_true, Bool.and_eq_true, Bool.and_eq_true, decide_eq_true_eq] at h
  exact h
theorem tl_same {m : List Nat} (h : okM m = true) : tlD' m = tlM m := by
  obtain ⟨_, h2, h3, _⟩ := okM_parts h
  have e2 := gtS_nf h2
  have e3 := gtS_nt h3
  unfold tlD' tlM
  rw [e2.1, e3.1, Nat.min_eq_left e2.2, Nat.min_eq_left e3.2]
/-- a text's bytes, told and spelled again -/
theorem spT_tl {X : List Nat} (ho : Octs X) (hl : X.length = 25) (h : gtOk 25 X = true) : spT (nb (gtS 25 X)) = X := by
  have h2 := h
  unfold gtOk at h2
  rw [Bool.and_eq_true, decide_eq_true_eq] at h2
  obtain ⟨h1, hb⟩ := h2
  unfold blanked at hb
  rw [decide_eq_true_eq, List.length_drop, hl] at hb
  unfold gtS
  rw [if_pos h, nb_strOf ((ho.drop 1).take _)]
  unfold spT
  have e3 : ((X.drop 1).take (bz X 0)).length = bz X 0 := by rw [List.length_take, List.length_drop]; omega
  rw [e3]
  have e4 : X = bz X 0 :: X.drop 1 := by
    have := List.drop_eq_getElem_cons (l := X) (i := 0) (by omega)
    rw [List.drop_zero, ← bz_get (by omega)] at this
    exact this
  have e5 : X.drop 1 = (X.drop 1).take (bz X 0) ++ zs (24 - bz X 0) := by
    have := (List.take_append_drop (bz X 0) (X.drop 1)).symm
    rw [List.drop_drop, hb] at this
    rw [show 24 - bz X 0 = 25 - (1 + bz X 0) by omega]
    exact this
  rw [← e5, ← e4]
/-- of a text's bytes -/
theorem tl_spT {l : List Nat} (hl : l.length ≤ 24) : gtOk 25 (spT l) = true ∧ gtS 25 (spT l) = strOf l := by
  have hb : bz (spT l) 0 = l.length := rfl
  have hd : (spT l).drop 1 = l ++ zs (24 - l.length) := rfl
  have hok : gtOk 25 (spT l) = true := by
    unfold gtOk
    rw [hb, Bool.and_eq_true, decide_eq_true_eq]
    refine ⟨by omega, ?_⟩
    rw [← List.drop_drop, hd, List.drop_append_of_le_length (Nat.le_refl _), List.drop_length, List.nil_append]
    unfold blanked
    rw [zs_length, decide_eq_true_eq]
  refine ⟨hok, ?_⟩
  unfold gtS
  rw [if_pos hok, hb, hd, List.take_append_of_le_length (Nat.le_refl _), List.take_length]
theorem onN_told {m : List Nat} (h : bz m 0 ≤ 1) : onN (tlM m) = bz m 0 := by
  unfold onN tlM
  simp only [decide_eq_true_eq]
  split <;> omega
theorem take_two {m : List Nat} (ho : Octs m) {o : Nat} (h : o + 2 ≤ m.length) : be 2 (((rdN ((m.drop o).take 2) : Nat) : Int).toNat) = (m.drop o).take 2 := by
  rw [Int.toNat_natCast, be_rdN 2 ((ho.drop o).take 2) (by rw [List.length_take, List.length_drop]; omega)]
theorem split_at' {m : List Nat} (o n : Nat) : m.drop o = (m.drop o).take n ++ m.drop (o + n) := by
  have := (List.take_append_drop n (m.drop o)).symm
  rwa [List.drop_drop] at this
/-- what is told is spelled so again -/
theorem spR_tl {m : List Nat} (ho : Octs m) (hl : m.length = 123) (h : okM m = true) : spR (tlM m) ++ zs 64 = m := by
  obtain ⟨h1, h2, h3, h4⟩ := okM_parts h
  have ea : spA (tlM m) = m.take 9 := by
    unfold spA
    rw [onN_told h1]
    show bz m 0 :: (be 2 (nmT m 0).toNat ++ (be 2 (nmT m 1).toNat ++ (be 2 (nmT m 2).toNat ++ be 2 (nmT m 3).toNat))) = _
    unfold nmT
    rw [take_two ho (by omega), take_two ho (by omega), take_two ho (by omega), take_two ho (by omega)]
    have e0 : m.take 9 = bz m 0 :: (m.drop 1).take 8 := by
      have := List.drop_eq_getElem_cons (l := m) (i := 0) (by omega)
      rw [List.drop_zero, ← bz_get (by omega)] at this
      have e := congrArg (fun l => l.take 9) this
      simpa using e
    rw [e0]
    congr 1
    have e1 : (m.drop 1).take 8 = (m.drop 1).take 2 ++ ((m.drop 3).take 2 ++ ((m.drop 5).take 2 ++ (m.drop 7).take 2)) := by
      rw [show (8 : Nat) = 2 + 6 from rfl, List.take_add, List.drop_drop, show (6 : Nat) = 2 + 4 from rfl, List.take_add, List.drop_drop, show (4 : Nat) = 2 + 2 from rfl, List.take_add, List.drop_drop]
    rw [e1]
  have e2 : spT (nb (tlM m).fn) = nf m := spT_tl (nf_octs ho) (nf_length hl) h2
  have e3 : spT (nb (tlM m).tn) = nt m := spT_tl (nt_octs ho) (nt_length hl) h3
  have e4 : m.drop 59 = zs 64 := by
    unfold blanked at h4
    rw [decide_eq_true_eq, List.length_drop, hl] at h4
    exact h4
  unfold spR
  rw [ea, e2, e3, ← e4, List.append_assoc, List.append_assoc]
  unfold nf nt
  rw [← split_at' 34 25, ← split_at' 9 25, List.take_append_drop]

theorem drop_at {A B : List Nat} (n : Nat) (h : A.length = n) : (A ++ B).drop n = B := by
  rw [List.drop_append_of_le_length (by omega), List.drop_of_length_le (by omega), List.nil_append]
theorem take_at {A B : List Nat} (n : Nat) (h : A.length = n) : (A ++ B).take n = A := by
  rw [List.take_append_of_le_length (by omega), List.take_of_length_le (by omega)]
/-- the parts of what is spelled -/
theorem spR_parts {r : Rcd} (h : lenR r) : bz (spR r ++ zs 64) 0 = onN r ∧ ((spR r ++ zs 64).drop 1).take 2 = be 2 r.fr.toNat ∧ ((spR r ++ zs 64).drop 3).take 2 = be 2 r.tt.toNat ∧ ((spR r ++ zs 64).drop 5).take 2 = be 2 r.io.toNat ∧ ((spR r ++ zs 64).drop 7).take 2 = be 2 r.od.toNat ∧ nf (spR r ++ zs 64) = spT (nb r.fn) ∧ nt (spR r ++ zs 64) = spT (nb r.tn) ∧ (spR r ++ zs 64).drop 59 = zs 64 := by
  obtain ⟨T, hT⟩ : ∃ T, spT (nb r.fn) ++ (spT (nb r.tn) ++ zs 64) = T := ⟨_, rfl⟩
  have e0 : spR r ++ zs 64 = onN r :: (be 2 r.fr.toNat ++ (be 2 r.tt.toNat ++ (be 2 r.io.toNat ++ (be 2 r.od.toNat ++ T)))) := by
    unfold spR spA
    rw [← hT]
    simp only [List.cons_append, List.append_assoc]
  have d1 : (spR r ++ zs 64).drop 1 = be 2 r.fr.toNat ++ (be 2 r.tt.toNat ++ (be 2 r.io.toNat ++ (be 2 r.od.toNat ++ T))) := by rw [e0]; rfl
  have d3 : (spR r ++ zs 64).drop 3 = be 2 r.tt.toNat ++ (be 2 r.io.toNat ++ (be 2 r.od.toNat ++ T)) := by
    rw [show (3 : Nat) = 1 + 2 from rfl, ← List.drop_drop, d1, drop_at 2 (be_length _ _)]
  have d5 : (spR r ++ zs 64).drop 5 = be 2 r.io.toNat ++ (be 2 r.od.toNat ++ T) := by
    rw [show (5 : Nat) = 3 + 2 from rfl, ← List.drop_drop, d3, drop_at 2 (be_length _ _)]
  have d7 : (spR r ++ zs 64).drop 7 = be 2 r.od.toNat ++ T := by
    rw [show (7 : Nat) = 5 + 2 from rfl, ← List.drop_drop, d5, drop_at 2 (be_length _ _)]
  have d9 : (spR r ++ zs 64).drop 9 = T := by
    rw [show (9 : Nat) = 7 + 2 from rfl, ← List.drop_drop, d7, drop_at 2 (be_length _ _)]
  have d34 : (spR r ++ zs 64).drop 34 = spT (nb r.tn) ++ zs 64 := by
    rw [show (34 : Nat) = 9 + 25 from rfl, ← List.drop_drop, d9, ← hT, drop_at 25 (spT_length h.1)]
  have d59 : (spR r ++ zs 64).drop 59 = zs 64 := by
    rw [show (59 : Nat) = 34 + 25 from rfl, ← List.drop_drop, d34, drop_at 25 (spT_length h.2)]
  refine ⟨by rw [e0]; rfl, by rw [d1, take_at 2 (be_length _ _)], by rw [d3, take_at 2 (be_length _ _)], by rw [d5, take_at 2 (be_length _ _)], by rw [d7, take_at 2 (be_length _ _)], ?_, ?_, d59⟩
  · unfold nf; rw [d9, ← hT, take_at 25 (spT_length h.1)]
  · unfold nt; rw [d34, take_at 25 (spT_length h.2)]
theorem ok_spR {r : Rcd} (h : lenR r) : okM (spR r ++ zs 64) = true := by
  obtain ⟨h0, _, _, _, _, h5, h6, h7⟩ := spR_parts h
  unfold okM
  rw [h0, h5, h6, h7, (tl_spT h.1).1, (tl_spT h.2).1, decide_eq_true (onN_le r)]
  unfold blanked
  rw [zs_length, decide_eq_true rfl]
  rfl
theorem tl_spR {r : Rcd} (h : mayR r = true) : tlM (spR r ++ zs 64) = r := by
  obtain ⟨f1, f2, f3, f4, hl⟩ := mayR_parts h
  obtain ⟨h0, h1, h2, h3, h4, h5, h6, _⟩ := spR_parts hl
  refine Rcd.ext' ?_ ?_ ?_ ?_ ?_ ?_ ?_
  · show decide (bz (spR r ++ zs 64) 0 = 1) = r.on
    rw [h0]; unfold onN; cases r.on <;> rfl
  · show ((rdN (((spR r ++ zs 64).drop 1).take 2) : Nat) : Int) = r.fr
    rw [h1, rdN_two f1]
  · show ((rdN (((spR r ++ zs 64).drop 3).take 2) : Nat) : Int) = r.tt
    rw [h2, rdN_two f2]
  · show ((rdN (((spR r ++ zs 64).drop 5).take 2) : Nat) : Int) = r.io
    rw [h3, rdN_two f3]
  · show ((rdN (((spR r ++ zs 64).drop 7).take 2) : Nat) : Int) = r.od
    rw [h4, rdN_two f4]
  · show gtS 25 (nf (spR r ++ zs 64)) = r.fn
    rw [h5, (tl_spT hl.1).2, strOf_nb]
  · show gtS 25 (nt (spR r ++ zs 64)) = r.tn
    rw [h6, (tl_spT hl.2).2, strOf_nb]

/-- does the body tell one that may be, and nothing more? what any bytes are read as -/
def fineR (m : List Nat) : Bool := okM m && mayR (tlM m)
def readR (l : List Nat) : Rcd × Int := if kindOf l = 82 ∧ fineR (bodyOf l) = true then (tlM (bodyOf l), 0) else (r0, 3)
theorem readR_no {l : List Nat} (h : ¬ (kindOf l = 82 ∧ fineR (bodyOf l) = true)) : readR l = (r0, 3) := by unfold readR; rw [if_neg h]
theorem readR_yes {l : List Nat} (h : kindOf l = 82) (h2 : fineR (bodyOf l) = true) : readR l = (tlM (bodyOf l), 0) := by unfold readR; rw [if_pos ⟨h, h2⟩]
theorem readR_sec {r : Rcd} (h : mayR r = true) : readR (secR r) = (r, 0) := by
  have hl := mayR_len h
  have hb := secR_body hl
  have ht := tl_spR h
  rw [readR_yes (secR_kind hl) (by unfold fineR; rw [hb, ok_spR hl, ht, h]; rfl), hb, ht]
/-- records that may be: alike, if their sectors are -/
theorem secR_inj {r q : Rcd} (hr : mayR r = true) (hq : mayR q = true) (h : secR r = secR q) : r = q := by
  have h1 := readR_sec hr
  rw [h, readR_sec hq] at h1
  exact (congrArg Prod.fst h1).symm
/-- the document's way: it is the sector of what it tells -/
theorem fineR_sec {l : List Nat} (ho : Octs l) (hk : kindOf l = 82) : fineR (bodyOf l) = true ↔ (mayR (tlD' (bodyOf l)) = true ∧ secR (tlD' (bodyOf l)) = l) := by
  have hl : l.length = 128 := kindOf_len (by omega)
  have hf : fitsB l = true ∧ bz l 0 = 82 := by
    unfold kindOf at hk
    split at hk
    · rename_i h; exact ⟨h.2, hk⟩
    · omega
  have hs : sealed 82 (bodyOf l) = l := by have := (sealed_body ho hl).2 hf.1; rwa [hf.2] at this
  have hbl := bodyOf_length hl
  have hbo : Octs (bodyOf l) := (ho.drop 1).take 123
  constructor
  · intro h
    unfold fineR at h
    rw [Bool.and_eq_true] at h
    obtain ⟨h1, h2⟩ := h
    rw [tl_same h1]
    refine ⟨h2, ?_⟩
    have e := spR_tl hbo hbl h1
    have e2 := sealed_pad (kind := 82) (k := 64) (l := spR (tlM (bodyOf l))) (by rw [spR_length (mayR_len h2)]; omega)
    unfold secR
    rw [← e2, e, hs]
  · rintro ⟨h1, h2⟩
    have hlen := mayR_len h1
    have hb := secR_body hlen
    rw [h2] at hb
    have hok : okM (bodyOf l) = true := by rw [hb]; exact ok_spR hlen
    unfold fineR
    rw [hok, ← tl_same hok, h1]
    rfl
end Go.Proofs.Ytkeihpenelpblaa
namespace Go.Proofs.Ytkeihpenelpblaa
open Go.RowKit BigFrame

/-- a record as cells, as a value -/
def rc (r : Rcd) : List Value := [.bool r.on, .int .i64 r.fr, .int .i64 r.tt, .int .i64 r.io, .int .i64 r.od, .string r.fn, .string r.tn]
def rv (r : Rcd) : Value := .agg (rc r).toArray
theorem rc_length (r : Rcd) : (rc r).length = 7 := rfl
theorem rc_all (r : Rcd) : (rc r).toArray.all (·.oneCell') = true := all_oneCell_toArray (by intro v hv; simp only [rc, List.mem_cons, List.not_mem_nil, or_false] at hv; rcases hv with rfl | rfl | rfl | rfl | rfl | rfl | rfl <;> rfl)
theorem rv_inj {r q : Rcd} (h : rv r = rv q) : r = q := by
  unfold rv rc at h
  simp only [Value.agg.injEq, Array.mk.injEq, List.cons.injEq, Value.bool.injEq, Value.int.injEq, Value.string.injEq, true_and, and_true] at h
  exact Rcd.ext' h.1 h.2.1 h.2.2.1 h.2.2.2.1 h.2.2.2.2.1 h.2.2.2.2.2.1 h.2.2.2.2.2.2

theorem Try.sizeRec : (Try.prog.info? 23).map (·.size) = some 7 := by kernel_rfl
theorem Try.infoRec : (Try.prog.info? 23).map (fun i => (i.zero, i.size)) = some (some (rv r0), 7) := by kernel_rfl
theorem Try.sizeNum : (Try.prog.info? 39).map (·.size) = some 4 := by kernel_rfl
theorem Try.infoNum : (Try.prog.info? 39).map (fun i => (i.zero, i.size)) = some (some (av (zz 4)), 4) := by kernel_rfl

theorem ldR_of (v : Value) : Instr.loadAt 23 v = ldA 23 v := rfl
theorem stR_of (p v : Value) : Instr.storeAt 23 p v = stA 23 p v := rfl
theorem eqR_of (x y : Value) : Op.equalIn 10000 23 x y = eqA 23 x y := rfl
theorem bdR_of (ps : Array (Nat × Value)) : Instr.build 23 ps = bdA 23 ps := rfl
theorem ldN_of (v : Value) : Instr.loadAt 39 v = ldA 39 v := rfl
theorem stN_of (p v : Value) : Instr.storeAt 39 p v = stA 39 p v := rfl
theorem ixN_of (x i : Value) : Instr.index 39 x i = ixA 39 x i := rfl
theorem bdN_of (ps : Array (Nat × Value)) : Instr.build 39 ps = bdA 39 ps := rfl

theorem run_ldR {w : World} {g o : Nat} {r : Rcd} (hr : w.rangeAt g o (rc r)) : (ldA 23 (.pointer (some ⟨g, o, none⟩))).run Try.prog w = .ok (rv r) w :=
  run_ldW 7 _ hr rfl Try.underlying23 rfl Try.sizeRec
theorem run_stR {w : World} {g o : Nat} {r : Rcd} (ht : w.there g o 7) : (stA 23 (.pointer (some ⟨g, o, none⟩)) (rv r)).run Try.prog w = .ok () (w.setCells g o (rc r)) :=
  run_stW 7 rfl (rc_all r) ht Try.sizeRec
theorem run_ldN {w : World} {g o : Nat} {l : List Int} (hr : w.rangeAt g o (iv l)) (hl : l.length = 4) : (ldA 39 (.pointer (some ⟨g, o, none⟩))).run Try.prog w = .ok (av l) w :=
  run_ldA 4 _ hr hl Try.underlying39 rfl Try.sizeNum
theorem run_stN {w : World} {g o : Nat} {m : List Int} (hm : m.length = 4) (ht : w.there g o 4) : (stA 39 (.pointer (some ⟨g, o, none⟩)) (av m)).run Try.prog w = .ok () (w.setCells g o (iv m)) :=
  run_stA 4 hm ht Try.sizeNum
theorem run_ixN (w : World) (L : List Int) (k : Nat) (hk : k < 4) (hL : L.length = 4) : (ixA 39 (av L) (.int .i64 (k : Int))).run Try.prog w = .ok (.int .i64 (zi L k)) w :=
  run_ixA_int Try.underlying39 Try.underlying3 Try.sizeInt w L k hk hL
theorem run_bd0R (w : World) : (bdA 23 #[]).run Try.prog w = .ok (rv r0) w := by
  unfold bdA
  exact run_build w _ _ _ (by kernel_rfl)
theorem run_bd5R (w : World) (b : Bool) (f t i o : Int) : (bdA 23 #[(0, .bool b), (1, .int .i64 f), (2, .int .i64 t), (3, .int .i64 i), (4, .int .i64 o)]).run Try.prog w = .ok (rv ⟨b, f, t, i, o, ⟨#[]⟩, ⟨#[]⟩⟩) w := by
  unfold bdA
  exact run_build w _ _ _ (by kernel_rfl)
theorem run_bd7R (w : World) (b : Bool) (f t i o : Int) (m n : ByteArray) : (bdA 23 #[(0, .bool b), (1, .int .i64 f), (2, .int .i64 t), (3, .int .i64 i), (4, .int .i64 o), (5, .string m), (6, .string n)]).run Try.prog w = .ok (rv ⟨b, f, t, i, o, m, n⟩) w := by
  unfold bdA
  exact run_build w _ _ _ (by kernel_rfl)
theorem run_bdN (w : World) (a b c d : Int) : (bdA 39 #[(0, .int .i64 a), (1, .int .i64 b), (2, .int .i64 c), (3, .int .i64 d)]).run Try.prog w = .ok (av [a, b, c, d]) w := by
  unfold bdA
  exact run_build w _ _ _ (by kernel_rfl)
theorem Try.heldRec : Try.prog.stoodInHeld 23 = false := by kernel_rfl
theorem run_eqR' (d : Nat) (r q : Rcd) (w : World) : (Op.equalIn (d + 2) 23 (rv r) (rv q)).run Try.prog w = .ok (decide (r = q)) w := by
  have hf : Try.prog.underlying 23 = some (.struct (Try.prog.fieldsOf 23)) := by unfold Program.fieldsOf; rw [Try.underlying23]
  have h := run_equalIn_struct (P := Try.prog) w (d + 1) 23 (rc r).toArray (rc q).toArray hf Try.heldRec
  unfold rv
  rw [h]
  simp only [Program.fieldsOf, Try.underlying23]
  rw [eqFieldsW (a := .bool r.on) (b := .bool q.on) (r := r.on == q.on) (by decide) Try.underlying4 rfl rfl rfl (run_equalIn_bool w d _ _ _ Try.underlying4),
    eqFieldsW (a := .int .i64 r.fr) (b := .int .i64 q.fr) (r := r.fr == q.fr) (by decide) Try.underlying3 rfl rfl rfl (run_equalIn_int w d _ .i64 .i64 _ _ Try.underlying3),
    eqFieldsW (a := .int .i64 r.tt) (b := .int .i64 q.tt) (r := r.tt == q.tt) (by decide) Try.underlying3 rfl rfl rfl (run_equalIn_int w d _ .i64 .i64 _ _ Try.underlying3),
    eqFieldsW (a := .int .i64 r.io) (b := .int .i64 q.io) (r := r.io == q.io) (by decide) Try.underlying3 rfl rfl rfl (run_equalIn_int w d _ .i64 .i64 _ _ Try.underlying3),
    eqFieldsW (a := .int .i64 r.od) (b := .int .i64 q.od) (r := r.od == q.od) (by decide) Try.underlying3 rfl rfl rfl (run_equalIn_int w d _ .i64 .i64 _ _ Try.underlying3),
    eqFieldsW (a := .string r.fn) (b := .string q.fn) (r := r.fn.toList == q.fn.toList) (by decide) Try.underlying9 rfl rfl rfl (run_equalIn_string w d _ _ _ Try.underlying9),
    eqFieldsW (a := .string r.tn) (b := .string q.tn) (r := r.tn.toList == q.tn.toList) (by decide) Try.underlying9 rfl rfl rfl (run_equalIn_string w d _ _ _ Try.underlying9), eqFields_nil, toList_nb, toList_nb]
  by_cases h0 : r.on = q.on
  · rw [if_pos (beq_iff_eq.2 h0)]
    by_cases h1 : r.fr = q.fr
    · rw [if_pos (beq_iff_eq.2 h1)]
      by_cases h2 : r.tt = q.tt
      · rw [if_pos (beq_iff_eq.2 h2)]
        by_cases h3 : r.io = q.io
        · rw [if_pos (beq_iff_eq.2 h3)]
          by_cases h4 : r.od = q.od
          · rw [if_pos (beq_iff_eq.2 h4)]
            by_cases h5 : r.fn = q.fn
            · rw [if_pos (decide_eq_true h5)]
              by_cases h6 : r.tn = q.tn
              · rw [if_pos (decide_eq_true h6), decide_eq_true (Rcd.ext' h0 h1 h2 h3 h4 h5 h6)]
              · rw [if_neg (by rw [decide_eq_true_eq]; exact h6), decide_eq_false (fun e => h6 (by rw [e]))]
            · rw [if_neg (by rw [decide_eq_true_eq]; exact h5), decide_eq_false (fun e => h5 (by rw [e]))]
          · rw [if_neg (by rw [beq_iff_eq]; exact h4), decide_eq_false (fun e => h4 (by rw [e]))]
        · rw [if_neg (by rw [beq_iff_eq]; exact h3), decide_eq_false (fun e => h3 (by rw [e]))]
      · rw [if_neg (by rw [beq_iff_eq]; exact h2), decide_eq_false (fun e => h2 (by rw [e]))]
    · rw [if_neg (by rw [beq_iff_eq]; exact h1), decide_eq_false (fun e => h1 (by rw [e]))]
  · rw [if_neg (by rw [beq_iff_eq]; exact h0), decide_eq_false (fun e => h0 (by rw [e]))]
theorem run_eqR (r q : Rcd) (w : World) : (eqA 23 (rv r) (rv q)).run Try.prog w = .ok (decide (r = q)) w := run_eqR' 9998 r q w
theorem Try.eqGuardR : Try.prog.eqGuardType Try.prog.depth 23 = false := by kernel_rfl

theorem wpList_alloc_rec {w : World} {ops : Array Oper} {rest : List Oper} {o : Oper} {a : Act} {Q : Exit → Act → World → Prop} (hgd : o.guard = none) (ho : o.op = .alloc 23)
    (h : ∀ g w1, Hid (Vw w1 23 g (rc r0)) → w.heap.size ≤ g → Below w.heap.size w w1 → wpList Try.prog ops Q rest (a.put o.dst (.pointer (some ⟨g, 0, none⟩))) w1) : wpList Try.prog ops Q (o :: rest) a w := by
  refine wpList_plain hgd fun K hK => ?_
  have hz := (zero_of_info Try.infoRec).1 w
  unfold Oper.wp
  simp [execOp, ho, Instr.alloc, Sem.run_bind, hz, newVar, Value.cells, rv, Result.andThen]
  exact hK _ _ (h _ _ (heap_alloc_new w _) (Nat.le_refl _) ((Below.refl _ _).alloc (Nat.le_refl _) _))
theorem wpList_alloc_num {w : World} {ops : Array Oper} {rest : List Oper} {o : Oper} {a : Act} {Q : Exit → Act → World → Prop} (hgd : o.guard = none) (ho : o.op = .alloc 39)
    (h : ∀ g w1, Hid (Vi w1 39 g (zz 4)) → w.heap.size ≤ g → Below w.heap.size w w1 → wpList Try.prog ops Q rest (a.put o.dst (.pointer (some ⟨g, 0, none⟩))) w1) : wpList Try.prog ops Q (o :: rest) a w := by
  refine wpList_plain hgd fun K hK => ?_
  have hz := (zero_of_info Try.infoNum).1 w
  unfold Oper.wp
  simp [execOp, ho, Instr.alloc, Sem.run_bind, hz, newVar, Value.cells, av, Result.andThen]
  exact hK _ _ (h _ _ (heap_alloc_new w _) (Nat.le_refl _) ((Below.refl _ _).alloc (Nat.le_refl _) _))
/-- the results are one that lies in a block, and one more; the result is four numbers -/
theorem rec_ret {fn : Func} {p u : Tmp} (h : fn.results = #[.cell p 23, .tmp u]) {tmps : Array Value} {w : World} {a : Nat} {r : Rcd} (hp : tmps.getD p undef = .pointer (some ⟨a, 0, none⟩)) (hV : Vw w 23 a (rc r)) :
    (results fn tmps).run Try.prog w = .ok (.tuple #[rv r, tmps.getD u undef]) w := by
  have hp' : tmps[p]?.getD undef = .pointer (some ⟨a, 0, none⟩) := by simpa using hp
  simp [results, h, hp', asAddr, run_loadVar_row w a _ 23 _ _ _ hV Try.underlying23 rfl (by rw [Try.sizeRec]; simp [rc_length]), rv]
theorem num_ret {fn : Func} {p : Tmp} (h : fn.results = #[.cell p 39]) {tmps : Array Value} {w : World} {a : Nat} {L : List Int} (hp : tmps.getD p undef = .pointer (some ⟨a, 0, none⟩)) (hV : Vi w 39 a L) (hL : L.length = 4) :
    (results fn tmps).run Try.prog w = .ok (av L) w := by
  have hp' : tmps[p]?.getD undef = .pointer (some ⟨a, 0, none⟩) := by simpa using hp
  simp [results, h, hp', asAddr, run_loadVar_row w a _ 39 _ _ _ hV Try.underlying39 rfl (by rw [Try.sizeNum]; simp [iv_length, hL]), av]
def noRec : Value := .tuple #[.slice none 0 0, .int .i64 2]
def readRV (l : List Nat) : Value := .tuple #[rv (readR l).1, .int .i64 (readR l).2]
end Go.Proofs.Ytkeihpenelpblaa
