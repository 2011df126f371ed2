/-
  strings.HasPrefix, Clone, Split and Join at a slash, by the library's contracts (the text Shelf is laid by the kit), told by lists of bytes.
-/
import Derived.Test.YtkocjkndkkhogaaDoorKa
import Derived.Test.YtkocjkndkkhogaaDoorTa
import Derived.Test.YtkocjkndkkhogaaDoorShelf
import Derived.Lib.IndexBytes
namespace Go.Proofs.YtkocjkndkkhogaaDoor
open Go.RowKit BigFrame

theorem head_is (s : ByteArray) : Lib.hasPrefix s.data.toList [47] = decide ((nb s).head? = some 47) := by
  unfold nb Lib.hasPrefix
  generalize s.data.toList = l
  cases l with
  | nil => rfl
  | cons b l =>
    rw [List.map_cons, List.head?_cons]
    by_cases h : b = 47
    · subst h; rfl
    · have h2 : ¬ b.toNat = 47 := fun e => h (UInt8.toNat_inj.1 e)
      rw [decide_eq_false (by simpa using h2)]
      simp [List.isPrefixOf, Ne.symm h]
theorem prefix_c (s : ByteArray) (w : World) (r : Bool) (hr : decide ((nb s).head? = some 47) = r) :
    Calls Tryd.prog 21 #[.string s, .string ⟨#[47]⟩] w fun e w' => e = .returned (.bool r) ∧ w = w' :=
  (Tryd.strings_HasPrefix s ⟨#[47]⟩ w).mono fun e w' ⟨h1, h2⟩ => ⟨by rw [h1, ← hr, ← head_is], h2.symm⟩
theorem clone_c (s : ByteArray) (w : World) (hl : s.size ≤ 1000000) :
    Calls Tryd.prog 32 #[.string s] w fun e w' => e = .returned (.string s) ∧ Below w.heap.size w w' := by
  go_enter Tryd.func32, Tryd.ntmps32
  go_wp2_with (go_at_call 39; refine (Tryd.stringslite_Clone s _ (by omega)).mono ?_; rintro e w1 ⟨rfl, hb⟩; have hend := Lib.hid hb; clear hb)
  go_ret
  exact ⟨rfl, hend.out⟩

/-- a byte ahead of the first -/
def hd1 {α : Type} (b : α) : List (List α) → List (List α)
  | [] => []
  | p :: ps => (b :: p) :: ps
theorem pcs_hd : ∀ (l : List Nat) (x : Nat) (acc : List Nat), pcs (x :: acc) l = hd1 x (pcs acc l)
  | [], x, acc => rfl
  | y :: l, x, acc => by
    by_cases e : y = 47
    · subst e; rw [pcs_slash, pcs_slash]; rfl
    · rw [pcs_other _ _ e, pcs_other _ _ e, List.cons_append, pcs_hd l x _]
theorem index_other {b : UInt8} (l : List UInt8) (h : b ≠ 47) : Lib.index (b :: l) [47] = if Lib.index l [47] == -1 then -1 else Lib.index l [47] + 1 := by
  rw [Lib.index]
  simp [List.isPrefixOf, Ne.symm h]
theorem split_hd (b : UInt8) (l : List UInt8) (h : b ≠ 47) : ∀ k, Lib.splitK [47] 0 k (b :: l) = hd1 b (Lib.splitK [47] 0 k l)
  | 0 => rfl
  | k + 1 => by
    unfold Lib.splitK
    rw [index_other l h]
    by_cases hm : Lib.index l [47] = -1
    · rw [hm]; rfl
    · have hge := Lib.index_ge l [47]
      obtain ⟨j, hj⟩ : ∃ j : Nat, Lib.index l [47] = j := ⟨(Lib.index l [47]).toNat, by omega⟩
      have e1 : ((((j : Nat) : Int)) == -1) = false := by rw [beq_eq_false_iff_ne]; omega
      have e2 : ((((j : Nat) : Int) + 1) == -1) = false := by rw [beq_eq_false_iff_ne]; omega
      have c1 : ¬ ((((j : Nat) : Int)) == -1) = true := by rw [e1]; decide
      have c2 : ¬ ((((j : Nat) : Int) + 1) == -1) = true := by rw [e2]; decide
      rw [hj, if_neg c1, if_neg c2, if_neg c1]
      have e3 : (((j : Nat) : Int) + 1).toNat = j + 1 := by omega
      have e4 : (((j : Nat) : Int)).toNat = j := by omega
      rw [e3, e4]
      rw [show j + 1 + ([47] : List UInt8).length = (j + 1) + 1 from rfl, show j + ([47] : List UInt8).length = j + 1 from rfl, show j + 1 + 0 = j + 1 from rfl, show j + 0 = j from rfl, List.take_succ_cons, List.drop_succ_cons]
      rfl
theorem split_is : ∀ (l : List UInt8), (Lib.splitK [47] 0 (Lib.count l [47]) l).map (fun p => p.map UInt8.toNat) = pcs [] (l.map UInt8.toNat)
  | [] => rfl
  | b :: l => by
    by_cases h : b = 47
    · subst h
      have e : Lib.index (47 :: l) [47] = 0 := by rw [Lib.index]; simp [List.isPrefixOf]
      rw [Lib.count_cons_eq, Nat.add_comm 1, Lib.splitK, e, if_neg (by decide), List.map_cons, List.map_cons]
      show [] :: (Lib.splitK [47] 0 (Lib.count l [47]) l).map (fun p => p.map UInt8.toNat) = pcs [] (47 :: l.map UInt8.toNat)
      rw [split_is l, pcs_slash]
    · have h2 : ¬ b.toNat = 47 := fun e => h (UInt8.toNat_inj.1 e)
      rw [Lib.count_cons_ne b 47 l h, split_hd b l h, List.map_cons, pcs_other _ _ h2, List.nil_append, pcs_hd, ← split_is l]
      generalize Lib.splitK [47] 0 (Lib.count l [47]) l = ps
      cases ps <;> rfl
def slashS : ByteArray := ⟨#[47]⟩
/-- the pieces of a string, at its slashes -/
def piecesB (s : ByteArray) : List ByteArray := Lib.splitB slashS 0 (Lib.countB s slashS) s
theorem pieces_nb (s : ByteArray) : (piecesB s).map nb = pcs [] (nb s) := by
  have h := Lib.splitB_data slashS 0 (Lib.countB s slashS) s
  have h2 := split_is s.data.toList
  unfold piecesB
  rw [show (Lib.splitB slashS 0 (Lib.countB s slashS) s).map nb = ((Lib.splitB slashS 0 (Lib.countB s slashS) s).map (·.data.toList)).map (fun p => p.map UInt8.toNat) by rw [List.map_map]; rfl, h]
  exact h2
theorem pieces_length (s : ByteArray) : Lib.countB s slashS + 1 = (pcs [] (nb s)).length := by
  rw [← pieces_nb, List.length_map]
  exact (Lib.splitB_all slashS (by decide) 0 _ s rfl).symm
theorem split_raw (s : ByteArray) (w : World) (hs : s.size ≤ 1000000) :
    Calls Tryd.prog 31 #[.string s, .string ⟨#[47]⟩] w fun e w' =>
      e = .returned (.slice (some ⟨w.heap.size, 0, none⟩) (Lib.countB s slashS + 1) (Lib.countB s slashS + 1)) ∧ w' = w.alloc (.cells ((piecesB s).map Value.string).toArray 9) := by
  have hle := Lib.countB_le slashS (by decide) s.size s (Nat.le_refl _)
  have hlen := Lib.splitB_all slashS (by decide) 0 _ s rfl
  have c : Calls Tryd.prog 38 #[.string s, .string slashS, .int .i64 ((0 : Nat) : Int), .int .i64 (-1)] w fun e w' =>
      e = .returned (.slice (some ⟨w.heap.size, 0, none⟩) (Lib.splitB slashS 0 (Lib.countB s slashS + 1 - 1) s).length (Lib.countB s slashS + 1)) ∧ w' = w.alloc (.cells (Lib.cellsOf (Lib.splitB slashS 0 (Lib.countB s slashS + 1 - 1) s) (Lib.countB s slashS + 1)) 9) :=
    Any.strings_genSplit_core Tryd.lays221 (by kernel_rfl) s slashS 0 (-1) (Lib.countB s slashS + 1) w (by omega) (by decide) (by decide)
      (fun x c _ => (Tryd.strings_Index_one x 47 _).mono fun e w' ⟨h1, h2⟩ => ⟨by rw [h1]; exact congrArg (fun z => Ending.returned (Value.int .i64 z)) (Lib.index_one x.data.toList 47).symm, h2⟩)
      ((Tryd.strings_Count_one s 47 w).mono fun e w' ⟨h1, h2⟩ => ⟨by rw [h1]; exact congrArg (fun z : Nat => Ending.returned (Value.int .i64 (z : Int))) (Lib.count_one 47 s.data.toList).symm, h2⟩)
      (by decide) (by decide) (by rw [if_pos (by decide)]; omega)
  rw [Nat.add_sub_cancel, hlen] at c
  have e2 : Lib.cellsOf (Lib.splitB slashS 0 (Lib.countB s slashS) s) (Lib.countB s slashS + 1) = ((piecesB s).map Value.string).toArray := by
    unfold piecesB
    rw [← hlen]; exact Lib.cellsOf_full _
  rw [e2] at c
  have c' := Lib.hid c
  clear c hle hlen e2
  go_enter Tryd.func31, Tryd.ntmps31
  go_wp2_with (go_at_call 38; refine c'.out.mono ?_; rintro e w1 ⟨rfl, hw⟩)
  go_ret
  exact ⟨rfl, rfl⟩
/-- what is split lies there -/
def SplitPost (s : ByteArray) (w : World) (e : Ending) (w' : World) : Prop :=
  ∃ n g, e = .returned (.slice (some ⟨g, 0, none⟩) n n) ∧ n = (pcs [] (nb s)).length ∧ TAt w' (some ⟨g, 0, none⟩) (pcs [] (nb s)) ∧ Below w.heap.size w w'
theorem split_c (s : ByteArray) (w : World) (hs : s.size ≤ 1000000) : Calls Tryd.prog 31 #[.string s, .string ⟨#[47]⟩] w (SplitPost s w) := by
  refine (split_raw s w hs).mono ?_
  rintro e w' ⟨rfl, rfl⟩
  refine ⟨_, _, rfl, pieces_length s, .inr ⟨w.heap.size, 0, rfl, fun k hk => ?_⟩, (Below.refl _ _).alloc (Nat.le_refl _) _⟩
  have hk2 : k < (piecesB s).length := by rw [← pieces_nb, List.length_map] at hk; exact hk
  have e1 : tz (pcs [] (nb s)) k = nb ((piecesB s)[k]) := by
    rw [tz_get hk]
    simp only [← pieces_nb, List.getElem_map]
  rw [cell_of_row _ w.heap.size _ _ _ _ (heap_alloc_new w _), Nat.zero_add, e1, strOf_nb]
  simp [hk2]
theorem data_strOf (p : List Nat) : (strOf p).data.toList = p.map UInt8.ofNat := rfl
theorem joinU : ∀ (p : List Nat) (ps : List (List Nat)), (47 :: Lib.join ((p :: ps).map fun q => q.map UInt8.ofNat) [47] : List UInt8) = ((p :: ps).flatMap (fun q => 47 :: q)).map UInt8.ofNat := by
  intro p ps
  rw [List.map_cons, Lib.join_cons, List.flatMap_cons]
  have : ∀ qs : List (List Nat), Lib.joinTail [47] (qs.map fun q => q.map UInt8.ofNat) = (qs.flatMap (fun q => 47 :: q)).map UInt8.ofNat := by
    intro qs
    induction qs with
    | nil => rfl
    | cons q qs ih =>
      rw [List.flatMap_cons, List.map_append, ← ih]
      simp [Lib.joinTail]
  rw [this ps]
  simp
/-- strings.Join of texts at a slash -/
def sepJ (L : List (List Nat)) : ByteArray := ⟨(Lib.join (L.map fun q => q.map UInt8.ofNat) [47]).toArray⟩
theorem sepJ_length (L : List (List Nat)) : (Lib.join (L.map fun q => q.map UInt8.ofNat) [47]).length ≤ sizeL L := by
  cases L with
  | nil => simp [Lib.join_nil]
  | cons p ps =>
    have h := congrArg List.length (joinU p ps)
    rw [List.length_map, flat_length, List.length_cons] at h
    omega
theorem sepJ_is (L : List (List Nat)) : (⟨#[47]⟩ : ByteArray) ++ sepJ L = strOf (joinL L) := by
  unfold joinL
  cases L with
  | nil => rfl
  | cons p ps =>
    rw [if_neg (by simp)]
    unfold sepJ strOf
    rw [← joinU p ps]
    apply ByteArray.ext
    simp
theorem sjoin_c (a : Option Addr) (n c : Nat) (L : List (List Nat)) (w : World) (hn : n = L.length) (hc : n ≤ c) (hx : TAt w a L) (hz : sizeL L ≤ 1000000) :
    Calls Tryd.prog 28 #[.slice a n c, .string ⟨#[47]⟩] w fun e w' => e = .returned (.string (sepJ L)) ∧ Below w.heap.size w w' := by
  subst hn
  rcases hx with h | ⟨b, off, rfl, h⟩
  · obtain rfl := List.eq_nil_of_length_eq_zero h
    exact (Tryd.strings_Join_none a c ⟨#[47]⟩ w).mono fun e w' ⟨h1, h2⟩ => ⟨h1, by subst h2; exact Below.refl _ _⟩
  · by_cases h0 : L.length = 0
    · obtain rfl := List.eq_nil_of_length_eq_zero h0
      exact (Tryd.strings_Join_none _ c ⟨#[47]⟩ w).mono fun e w' ⟨h1, h2⟩ => ⟨h1, by subst h2; exact Below.refl _ _⟩
    · have hlt : b < w.heap.size := World.block_lt_of_cell? w _ (h 0 (by omega))
      have e1 : (L.map strOf).map (·.data.toList) = L.map fun q => q.map UInt8.ofNat := by rw [List.map_map]; rfl
      have hj := sepJ_length L
      have hs : L.length ≤ sizeL L := by
        clear h h0 hc hz hj e1
        induction L with
        | nil => simp
        | cons p ps ih => simp only [List.length_cons, sizeL]; omega
      have := Tryd.strings_Join b off c (L.map strOf) ⟨#[47]⟩ w (fun j x hj => by
        rw [List.getElem?_map] at hj
        obtain ⟨q, hq, rfl⟩ := Option.map_eq_some_iff.1 hj
        have hlt := (List.getElem?_eq_some_iff.1 hq).1
        have e2 : tz L j = q := by rw [tz_get hlt]; exact (List.getElem?_eq_some_iff.1 hq).2
        rw [h j hlt, e2]) hlt (by rw [List.length_map]; omega) (by rw [List.length_map]; exact hc) (by rw [e1]; show (Lib.join _ [47]).length ≤ _; omega)
      rw [List.length_map, e1] at this
      exact this
end Go.Proofs.YtkocjkndkkhogaaDoor
