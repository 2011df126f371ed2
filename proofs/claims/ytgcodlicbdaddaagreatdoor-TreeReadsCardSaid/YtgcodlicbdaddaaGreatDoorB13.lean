/-
  strings.HasPrefix, Clone, Split and Join at a slash, by the library's contracts (the text Shelf is laid by the kit), told by lists of bytes.
  The first place of a byte in a string; may a file have a name?
  split: the parts of a text of up to so many bytes.
-/
import Derived.Test.YtgcodlicbdaddaaGreatDoorB2
import Derived.Test.YtgcodlicbdaddaaGreatDoorB11
import Derived.Test.YtgcodlicbdaddaaGreatDoorB12
import Derived.Lib.IndexBytes
import Derived.Test.YtgcodlicbdaddaaGreatDoorB1
import Derived.Lib.Bytealg

section
set_option linter.unusedVariables false
set_option linter.unusedSimpArgs false
namespace Go.Proofs.YtgcodlicbdaddaaGreatDoor
open Go.RowKit BigFrame

theorem head_is (s : ByteArray) : Lib.hasPrefix s.data.toList [47] = decide ((nb s).head? = some 47) := by
  unfold nb Lib.hasPrefix
  generalize s.data.toList = l
  cases l with
  | nil => rfl
  | cons b l =>
    rw [List.map_cons, List.head?_cons]
    by_cases h : b = 47
    · subst h; rfl
    · have h2 : ¬ b.toNat = 47 := fun e => h (UInt8.toNat_inj.1 e)
      rw [decide_eq_false (by simpa using h2)]
      simp [List.isPrefixOf, Ne.symm h]
theorem prefix_c (s : ByteArray) (w : World) (r : Bool) (hr : decide ((nb s).head? = some 47) = r) :
    Calls Tryz.prog 157 #[.string s, .string ⟨#[47]⟩] w fun e w' => e = .returned (.bool r) ∧ w = w' :=
  (Tryz.strings_HasPrefix s ⟨#[47]⟩ w).mono fun e w' ⟨h1, h2⟩ => ⟨by rw [h1, ← hr, ← head_is], h2.symm⟩
theorem clone_c (s : ByteArray) (w : World) (hl : s.size ≤ 1000000) :
    Calls Tryz.prog 184 #[.string s] w fun e w' => e = .returned (.string s) ∧ Below w.heap.size w w' := by
  go_enter Tryz.func184, Tryz.ntmps184
  go_wp2_with (go_at_call 198; refine (Tryz.stringslite_Clone s _ (by omega)).mono ?_; rintro e w1 ⟨rfl, hb⟩; have hend := Lib.hid hb; clear hb)
  go_ret
  exact ⟨rfl, hend.out⟩

/-- a byte ahead of the first -/
def hd1 {α : Type} (b : α) : List (List α) → List (List α)
  | [] => []
  | p :: ps => (b :: p) :: ps
theorem pcs_hd : ∀ (l : List Nat) (x : Nat) (acc : List Nat), pcs (x :: acc) l = hd1 x (pcs acc l)
  | [], x, acc => rfl
  | y :: l, x, acc => by
    by_cases e : y = 47
    · subst e; rw [pcs_slash, pcs_slash]; rfl
    · rw [pcs_other _ _ e, pcs_other _ _ e, List.cons_append, pcs_hd l x _]
theorem index_other {b : UInt8} (l : List UInt8) (h : b ≠ 47) : Lib.index (b :: l) [47] = if Lib.index l [47] == -1 then -1 else Lib.index l [47] + 1 := by
  rw [Lib.index]
  simp [List.isPrefixOf, Ne.symm h]
theorem split_hd (b : UInt8) (l : List UInt8) (h : b ≠ 47) : ∀ k, Lib.splitK [47] 0 k (b :: l) = hd1 b (Lib.splitK [47] 0 k l)
  | 0 => rfl
  | k + 1 => by
    unfold Lib.splitK
    rw [index_other l h]
    by_cases hm : Lib.index l [47] = -1
    · rw [hm]; rfl
    · have hge := Lib.index_ge l [47]
      obtain ⟨j, hj⟩ : ∃ j : Nat, Lib.index l [47] = j := ⟨(Lib.index l [47]).toNat, by omega⟩
      have e1 : ((((j : Nat) : Int)) == -1) = false := by rw [beq_eq_false_iff_ne]; omega
      have e2 : ((((j : Nat) : Int) + 1) == -1) = false := by rw [beq_eq_false_iff_ne]; omega
      have c1 : ¬ ((((j : Nat) : Int)) == -1) = true := by rw [e1]; decide
      have c2 : ¬ ((((j : Nat) : Int) + 1) == -1) = true := by rw [e2]; decide
      rw [hj, if_neg c1, if_neg c2, if_neg c1]
      have e3 : (((j : Nat) : Int) + 1).toNat = j + 1 := by omega
      have e4 : (((j : Nat) : Int)).toNat = j := by omega
      rw [e3, e4]
      rw [show j + 1 + ([47] : List UInt8).length = (j + 1) + 1 from rfl, show j + ([47] : List UInt8).length = j + 1 from rfl, show j + 1 + 0 = j + 1 from rfl, show j + 0 = j from rfl, List.take_succ_cons, List.drop_succ_cons]
      rfl
theorem split_is : ∀ (l : List UInt8), (Lib.splitK [47] 0 (Lib.count l [47]) l).map (fun p => p.map UInt8.toNat) = pcs [] (l.map UInt8.toNat)
  | [] => rfl
  | b :: l => by
    by_cases h : b = 47
    · subst h
      have e : Lib.index (47 :: l) [47] = 0 := by rw [Lib.index]; simp [List.isPrefixOf]
      rw [Lib.count_cons_eq, Nat.add_comm 1, Lib.splitK, e, if_neg (by decide), List.map_cons, List.map_cons]
      show [] :: (Lib.splitK [47] 0 (Lib.count l [47]) l).map (fun p => p.map UInt8.toNat) = pcs [] (47 :: l.map UInt8.toNat)
      rw [split_is l, pcs_slash]
    · have h2 : ¬ b.toNat = 47 := fun e => h (UInt8.toNat_inj.1 e)
      rw [Lib.count_cons_ne b 47 l h, split_hd b l h, List.map_cons, pcs_other _ _ h2, List.nil_append, pcs_hd, ← split_is l]
      generalize Lib.splitK [47] 0 (Lib.count l [47]) l = ps
      cases ps <;> rfl
def slashS : ByteArray := ⟨#[47]⟩
/-- the pieces of a string, at its slashes -/
def piecesB (s : ByteArray) : List ByteArray := Lib.splitB slashS 0 (Lib.countB s slashS) s
theorem pieces_nb (s : ByteArray) : (piecesB s).map nb = pcs [] (nb s) := by
  have h := Lib.splitB_data slashS 0 (Lib.countB s slashS) s
  have h2 := split_is s.data.toList
  unfold piecesB
  rw [show (Lib.splitB slashS 0 (Lib.countB s slashS) s).map nb = ((Lib.splitB slashS 0 (Lib.countB s slashS) s).map (·.data.toList)).map (fun p => p.map UInt8.toNat) by rw [List.map_map]; rfl, h]
  exact h2
theorem pieces_length (s : ByteArray) : Lib.countB s slashS + 1 = (pcs [] (nb s)).length := by
  rw [← pieces_nb, List.length_map]
  exact (Lib.splitB_all slashS (by decide) 0 _ s rfl).symm
theorem split_raw (s : ByteArray) (w : World) (hs : s.size ≤ 1000000) :
    Calls Tryz.prog 187 #[.string s, .string ⟨#[47]⟩] w fun e w' =>
      e = .returned (.slice (some ⟨w.heap.size, 0, none⟩) (Lib.countB s slashS + 1) (Lib.countB s slashS + 1)) ∧ w' = w.alloc (.cells ((piecesB s).map Value.string).toArray 9) := by
  have hle := Lib.countB_le slashS (by decide) s.size s (Nat.le_refl _)
  have hlen := Lib.splitB_all slashS (by decide) 0 _ s rfl
  have c : Calls Tryz.prog 200 #[.string s, .string slashS, .int .i64 ((0 : Nat) : Int), .int .i64 (-1)] w fun e w' =>
      e = .returned (.slice (some ⟨w.heap.size, 0, none⟩) (Lib.splitB slashS 0 (Lib.countB s slashS + 1 - 1) s).length (Lib.countB s slashS + 1)) ∧ w' = w.alloc (.cells (Lib.cellsOf (Lib.splitB slashS 0 (Lib.countB s slashS + 1 - 1) s) (Lib.countB s slashS + 1)) 9) :=
    Any.strings_genSplit_core Tryz.lays221 (by kernel_rfl) s slashS 0 (-1) (Lib.countB s slashS + 1) w (by omega) (by decide) (by decide)
      (fun x c _ => (Tryz.strings_Index_one x 47 _).mono fun e w' ⟨h1, h2⟩ => ⟨by rw [h1]; exact congrArg (fun z => Ending.returned (Value.int .i64 z)) (Lib.index_one x.data.toList 47).symm, h2⟩)
      ((Tryz.strings_Count_one s 47 w).mono fun e w' ⟨h1, h2⟩ => ⟨by rw [h1]; exact congrArg (fun z : Nat => Ending.returned (Value.int .i64 (z : Int))) (Lib.count_one 47 s.data.toList).symm, h2⟩)
      (by decide) (by decide) (by rw [if_pos (by decide)]; omega)
  rw [Nat.add_sub_cancel, hlen] at c
  have e2 : Lib.cellsOf (Lib.splitB slashS 0 (Lib.countB s slashS) s) (Lib.countB s slashS + 1) = ((piecesB s).map Value.string).toArray := by
    unfold piecesB
    rw [← hlen]; exact Lib.cellsOf_full _
  rw [e2] at c
  have c' := Lib.hid c
  clear c hle hlen e2
  go_enter Tryz.func187, Tryz.ntmps187
  go_wp2_with (go_at_call 200; refine c'.out.mono ?_; rintro e w1 ⟨rfl, hw⟩)
  go_ret
  exact ⟨rfl, rfl⟩
/-- what is split lies there -/
def SplitPost (s : ByteArray) (w : World) (e : Ending) (w' : World) : Prop :=
  ∃ n g, e = .returned (.slice (some ⟨g, 0, none⟩) n n) ∧ n = (pcs [] (nb s)).length ∧ TAt w' (some ⟨g, 0, none⟩) (pcs [] (nb s)) ∧ Below w.heap.size w w'
theorem split_c (s : ByteArray) (w : World) (hs : s.size ≤ 1000000) : Calls Tryz.prog 187 #[.string s, .string ⟨#[47]⟩] w (SplitPost s w) := by
  refine (split_raw s w hs).mono ?_
  rintro e w' ⟨rfl, rfl⟩
  refine ⟨_, _, rfl, pieces_length s, .inr ⟨w.heap.size, 0, rfl, fun k hk => ?_⟩, (Below.refl _ _).alloc (Nat.le_refl _) _⟩
  have hk2 : k < (piecesB s).length := by rw [← pieces_nb, List.length_map] at hk; exact hk
  have e1 : tz (pcs [] (nb s)) k = nb ((piecesB s)[k]) := by
    rw [tz_get hk]
    simp only [← pieces_nb, List.getElem_map]
  rw [cell_of_row _ w.heap.size _ _ _ _ (heap_alloc_new w _), Nat.zero_add, e1, strOf_nb]
  simp [hk2]
theorem data_strOf (p : List Nat) : (strOf p).data.toList = p.map UInt8.ofNat := rfl
theorem joinU : ∀ (p : List Nat) (ps : List (List Nat)), (47 :: Lib.join ((p :: ps).map fun q => q.map UInt8.ofNat) [47] : List UInt8) = ((p :: ps).flatMap (fun q => 47 :: q)).map UInt8.ofNat := by
  intro p ps
  rw [List.map_cons, Lib.join_cons, List.flatMap_cons]
  have : ∀ qs : List (List Nat), Lib.joinTail [47] (qs.map fun q => q.map UInt8.ofNat) = (qs.flatMap (fun q => 47 :: q)).map UInt8.ofNat := by
    intro qs
    induction qs with
    | nil => rfl
    | cons q qs ih =>
      rw [List.flatMap_cons, List.map_append, ← ih]
      simp [Lib.joinTail]
  rw [this ps]
  simp
/-- strings.Join of texts at a slash -/
def sepJ (L : List (List Nat)) : ByteArray := ⟨(Lib.join (L.map fun q => q.map UInt8.ofNat) [47]).toArray⟩
theorem sepJ_length (L : List (List Nat)) : (Lib.join (L.map fun q => q.map UInt8.ofNat) [47]).length ≤ sizeL L := by
  cases L with
  | nil => simp [Lib.join_nil]
  | cons p ps =>
    have h := congrArg List.length (joinU p ps)
    rw [List.length_map, flat_length, List.length_cons] at h
    omega
theorem sepJ_is (L : List (List Nat)) : (⟨#[47]⟩ : ByteArray) ++ sepJ L = strOf (joinL L) := by
  unfold joinL
  cases L with
  | nil => rfl
  | cons p ps =>
    rw [if_neg (by simp)]
    unfold sepJ strOf
    rw [← joinU p ps]
    apply ByteArray.ext
    simp
theorem sjoin_c (a : Option Addr) (n c : Nat) (L : List (List Nat)) (w : World) (hn : n = L.length) (hc : n ≤ c) (hx : TAt w a L) (hz : sizeL L ≤ 1000000) :
    Calls Tryz.prog 194 #[.slice a n c, .string ⟨#[47]⟩] w fun e w' => e = .returned (.string (sepJ L)) ∧ Below w.heap.size w w' := by
  subst hn
  rcases hx with h | ⟨b, off, rfl, h⟩
  · obtain rfl := List.eq_nil_of_length_eq_zero h
    exact (Tryz.strings_Join_none a c ⟨#[47]⟩ w).mono fun e w' ⟨h1, h2⟩ => ⟨h1, by subst h2; exact Below.refl _ _⟩
  · by_cases h0 : L.length = 0
    · obtain rfl := List.eq_nil_of_length_eq_zero h0
      exact (Tryz.strings_Join_none _ c ⟨#[47]⟩ w).mono fun e w' ⟨h1, h2⟩ => ⟨h1, by subst h2; exact Below.refl _ _⟩
    · have hlt : b < w.heap.size := World.block_lt_of_cell? w _ (h 0 (by omega))
      have e1 : (L.map strOf).map (·.data.toList) = L.map fun q => q.map UInt8.ofNat := by rw [List.map_map]; rfl
      have hj := sepJ_length L
      have hs : L.length ≤ sizeL L := by
        clear h h0 hc hz hj e1
        induction L with
        | nil => simp
        | cons p ps ih => simp only [List.length_cons, sizeL]; omega
      have := Tryz.strings_Join b off c (L.map strOf) ⟨#[47]⟩ w (fun j x hj => by
        rw [List.getElem?_map] at hj
        obtain ⟨q, hq, rfl⟩ := Option.map_eq_some_iff.1 hj
        have hlt := (List.getElem?_eq_some_iff.1 hq).1
        have e2 : tz L j = q := by rw [tz_get hlt]; exact (List.getElem?_eq_some_iff.1 hq).2
        rw [h j hlt, e2]) hlt (by rw [List.length_map]; omega) (by rw [List.length_map]; exact hc) (by rw [e1]; show (Lib.join _ [47]).length ≤ _; omega)
      rw [List.length_map, e1] at this
      exact this
end Go.Proofs.YtgcodlicbdaddaaGreatDoor
end

section
set_option linter.unusedVariables false
set_option linter.unusedSimpArgs false
namespace Go.Proofs.YtgcodlicbdaddaaGreatDoor
open Go.RowKit BigFrame

/-- may a file have it? -/
def nameB (l : List Nat) : Bool := decide (l ≠ [46]) && (decide (l ≠ [46, 46]) && (decide (1 ≤ l.length) && (decide (l.length ≤ 24) && (decide (47 ∉ l) && decide (0 ∉ l)))))
theorem nameB_len {l : List Nat} (h : nameB l = true) : 1 ≤ l.length ∧ l.length ≤ 24 := by
  unfold nameB at h
  simp only [Bool.and_eq_true, decide_eq_true_eq] at h
  exact ⟨h.2.2.1, h.2.2.2.1⟩

theorem idx_no {c : UInt8} : ∀ {l : List UInt8}, c ∉ l → Lib.indexByte l c = -1
  | [], _ => rfl
  | b :: l, h => by
    rw [List.mem_cons, not_or] at h
    have h1 : (b == c) = false := by rw [beq_eq_false_iff_ne]; exact fun e => h.1 e.symm
    unfold Lib.indexByte
    rw [h1, idx_no h.2]
    rfl
theorem idx_yes {c : UInt8} : ∀ {l : List UInt8}, c ∈ l → ∃ p : Nat, Lib.indexByte l c = (p : Int)
  | [], h => by simp at h
  | b :: l, h => by
    by_cases hb : b = c
    · refine ⟨0, ?_⟩
      unfold Lib.indexByte
      rw [show (b == c) = true by rw [beq_iff_eq]; exact hb]
      rfl
    · rw [List.mem_cons] at h
      obtain ⟨p, hp⟩ := idx_yes (h.resolve_left (fun e => hb e.symm))
      refine ⟨p + 1, ?_⟩
      unfold Lib.indexByte
      rw [show (b == c) = false by rw [beq_eq_false_iff_ne]; exact hb, hp]
      simp only [Bool.false_eq_true, if_false]
      rw [show (((p : Int)) == -1) = false by rw [beq_eq_false_iff_ne]; omega]
      simp
theorem mem_nb {s : ByteArray} {c : Nat} (hc : c < 256) : c.toUInt8 ∈ s.data.toList ↔ c ∈ nb s := by
  unfold nb
  rw [List.mem_map]
  constructor
  · intro h
    exact ⟨_, h, by simp [UInt8.toNat_ofNat']; omega⟩
  · rintro ⟨x, hx, rfl⟩
    have e : x.toNat.toUInt8 = x := by simp
    rwa [e]
set_option maxRecDepth 100000 in
theorem lite_any (s : ByteArray) (c : Int) (w : World) :
    Calls Tryz.prog 199 #[.string s, .int .u8 c] w fun e w' => e = .returned (.int .i64 (Lib.indexByte s.data.toList c.toNat.toUInt8)) ∧ w = w' := by
  go_enter Tryz.func199, Tryz.ntmps199
  go_wp2
  rw [run_callFunc_extern Tryz.func207 (by kernel_rfl) (by kernel_rfl) (by kernel_rfl) (e := Extern.BytealgIndexByte.indexByte) (by kernel_rfl), Lib.run_indexByteString]
  simp only [Result.andThen]
  rw [Oper.upon_value]
  go_wp2
  go_ret
  exact ⟨rfl, rfl⟩
set_option maxRecDepth 100000 in
theorem idxb_any (s : ByteArray) (c : Int) (w : World) :
    Calls Tryz.prog 186 #[.string s, .int .u8 c] w fun e w' => e = .returned (.int .i64 (Lib.indexByte s.data.toList c.toNat.toUInt8)) ∧ w = w' := by
  go_enter Tryz.func186, Tryz.ntmps186
  go_wp2_with (go_at_call 199; refine (lite_any s c _).mono ?_; rintro e w1 ⟨rfl, rfl⟩)
  go_ret
  exact ⟨rfl, rfl⟩
theorem place_no (s : ByteArray) (C : Int) (c : Nat) (w : World) (hC : C = (c : Int)) (hc : c < 256) (h : c ∉ nb s) :
    Calls Tryz.prog 186 #[.string s, .int .u8 C] w fun e w' => e = .returned (.int .i64 (-1)) ∧ w = w' := by
  subst hC
  have := idxb_any s (c : Int) w
  rwa [Int.toNat_natCast, idx_no (fun h2 => h ((mem_nb hc).1 h2))] at this
theorem place_yes (s : ByteArray) (C : Int) (c : Nat) (w : World) (hC : C = (c : Int)) (hc : c < 256) (h : c ∈ nb s) :
    Calls Tryz.prog 186 #[.string s, .int .u8 C] w fun e w' => (∃ p : Nat, e = .returned (.int .i64 (p : Int))) ∧ w = w' := by
  subst hC
  obtain ⟨p, hp⟩ := idx_yes ((mem_nb hc).2 h)
  have := idxb_any s (c : Int) w
  rw [Int.toNat_natCast, hp] at this
  exact this.mono fun _ _ ⟨h1, h2⟩ => ⟨⟨p, h1⟩, h2⟩

theorem toList_data (s : ByteArray) : s.toList = s.data.toList := by
  obtain ⟨⟨l⟩⟩ := s
  rw [ByteArray.toList_mk]
theorem toList_is {s : ByteArray} (l : List Nat) (ho : Octs l) : (s.toList == l.map UInt8.ofNat) = decide (nb s = l) := by
  have h := toList_nb s (strOf l)
  rw [strOf_toList] at h
  rw [h]
  by_cases e : nb s = l
  · rw [decide_eq_true e, decide_eq_true (by rw [← e, strOf_nb])]
  · rw [decide_eq_false e, decide_eq_false (fun h2 => e (by rw [h2, nb_strOf ho]))]
theorem dot_is {s : ByteArray} : (s.toList == [46]) = decide (nb s = [46]) := toList_is [46] (.cons (by omega) .nil)
theorem dots_is {s : ByteArray} : (s.toList == [46, 46]) = decide (nb s = [46, 46]) := toList_is [46, 46] (.cons (by omega) (.cons (by omega) .nil))

theorem name_is (s : ByteArray) (r : Bool) (w : World) (hr : nameB (nb s) = r) :
    Calls Tryz.prog 188 #[.string s] w fun e w' => e = .returned (.bool r) ∧ w = w' := by
  have hl := nb_length s
  have q1 := dot_is (s := s)
  have q2 := dots_is (s := s)
  unfold nameB at hr
  by_cases h1 : nb s = [46]
  · rw [decide_eq_true h1] at q1
    rw [show decide (nb s ≠ [46]) = false from decide_eq_false (fun h => h h1)] at hr
    obtain rfl : false = r := hr
    clear q2 h1 hl
    go_enter Tryz.func188, Tryz.ntmps188
    go_wp2_with fail
    go_ret
    exact ⟨rfl, rfl⟩
  rw [decide_eq_false h1] at q1
  rw [show decide (nb s ≠ [46]) = true from decide_eq_true h1, Bool.true_and] at hr
  by_cases h2 : nb s = [46, 46]
  · rw [decide_eq_true h2] at q2
    rw [show decide (nb s ≠ [46, 46]) = false from decide_eq_false (fun h => h h2)] at hr
    obtain rfl : false = r := hr
    clear h1 h2 hl
    go_enter Tryz.func188, Tryz.ntmps188
    go_wp2_with fail
    go_ret
    exact ⟨rfl, rfl⟩
  rw [decide_eq_false h2] at q2
  rw [show decide (nb s ≠ [46, 46]) = true from decide_eq_true h2, Bool.true_and, hl] at hr
  clear h1 h2 hl
  by_cases h3 : 1 ≤ s.size
  · rw [decide_eq_true h3, Bool.true_and] at hr
    by_cases h4 : s.size ≤ 24
    · rw [decide_eq_true h4, Bool.true_and] at hr
      by_cases h5 : 47 ∈ nb s
      · rw [show decide (47 ∉ nb s) = false from decide_eq_false (fun h => h h5)] at hr
        obtain rfl : false = r := hr
        have h5' := Lib.hid h5
        clear h5
        go_enter Tryz.func188, Tryz.ntmps188
        go_wp2_with (go_at_call 186; refine (place_yes s _ 47 _ rfl (by omega) h5'.out).mono ?_; rintro e w1 ⟨⟨p, rfl⟩, rfl⟩)
        go_ret
        exact ⟨rfl, rfl⟩
      · rw [show decide (47 ∉ nb s) = true from decide_eq_true h5, Bool.true_and] at hr
        have h5' := Lib.hid h5
        clear h5
        by_cases h6 : 0 ∈ nb s
        · rw [show decide (0 ∉ nb s) = false from decide_eq_false (fun h => h h6)] at hr
          obtain rfl : false = r := hr
          have h6' := Lib.hid h6
          clear h6
          have tk : True := trivial
          go_enter Tryz.func188, Tryz.ntmps188
          go_wp2_with (first
            | (go_at_call 186; clear tk; refine (place_no s _ 47 _ rfl (by omega) h5'.out).mono ?_; rintro e w1 ⟨rfl, rfl⟩)
            | (go_at_call 186; refine (place_yes s _ 0 _ rfl (by omega) h6'.out).mono ?_; rintro e w1 ⟨⟨p, rfl⟩, rfl⟩))
          go_ret
          exact ⟨rfl, rfl⟩
        · rw [show decide (0 ∉ nb s) = true from decide_eq_true h6] at hr
          obtain rfl : true = r := hr
          have h6' := Lib.hid h6
          clear h6
          have tk : True := trivial
          go_enter Tryz.func188, Tryz.ntmps188
          go_wp2_with (first
            | (go_at_call 186; clear tk; refine (place_no s _ 47 _ rfl (by omega) h5'.out).mono ?_; rintro e w1 ⟨rfl, rfl⟩)
            | (go_at_call 186; refine (place_no s _ 0 _ rfl (by omega) h6'.out).mono ?_; rintro e w1 ⟨rfl, rfl⟩))
          go_ret
          exact ⟨rfl, rfl⟩
    · rw [decide_eq_false h4] at hr
      obtain rfl : false = r := hr
      go_enter Tryz.func188, Tryz.ntmps188
      go_wp2_with fail
      go_ret
      exact ⟨rfl, rfl⟩
  · rw [decide_eq_false h3] at hr
    obtain rfl : false = r := hr
    go_enter Tryz.func188, Tryz.ntmps188
    go_wp2_with fail
    go_ret
    exact ⟨rfl, rfl⟩
end Go.Proofs.YtgcodlicbdaddaaGreatDoor
end

section
set_option linter.unusedVariables false
set_option linter.unusedSimpArgs false
namespace Go.Proofs.YtgcodlicbdaddaaGreatDoor
open Go.RowKit BigFrame

/-- texts and a code are told -/
def Gives2 (L : List (List Nat)) (c : Int) (w : World) (e : Ending) (w' : World) : Prop := ∃ v, e = .returned (.tuple #[v, .int .i64 c]) ∧ OwnT w' w.heap.size v L ∧ Below w.heap.size w w'
theorem empty_is (s : ByteArray) : s.toList.isEmpty = decide (nb s = []) := by
  rw [toList_u]
  unfold nb
  cases s.data.toList <;> rfl
theorem empty_str (p : List Nat) : (strOf p).toList.isEmpty = decide (p = []) := by
  rw [toList_u]
  show (p.map UInt8.ofNat).isEmpty = _
  cases p <;> rfl
theorem dot_str {p : List Nat} (h : Octs p) : ((strOf p).toList == [46]) = decide (p = dot) := str_is h dot dot_octs
theorem dots_str {p : List Nat} (h : Octs p) : ((strOf p).toList == [46, 46]) = decide (p = dots) := str_is h dots dots_octs
def SpRel (P Q : List (List Nat)) (a : Option Addr) (w1 : World) (v i : Value) (wr : World) : Prop :=
  ∃ (k : Nat) (out : List (List Nat)), k ≤ P.length ∧ i = .int .i64 k ∧ OwnT wr w1.heap.size v out ∧ TAt wr a P ∧ Below w1.heap.size w1 wr ∧ out ++ (P.drop k).filter realB = Q ∧ out.length ≤ 20 ∧ ∀ p ∈ out, p.length ≤ 24
theorem sizeL_len : ∀ (L : List (List Nat)), L.length ≤ sizeL L
  | [] => by simp
  | p :: ps => by
    have := sizeL_len ps
    simp only [List.length_cons, sizeL]; omega
theorem nameB_part {p : List Nat} (h1 : 47 ∉ p) (h2 : 0 ∉ p) (hr : realB p = true) (hd : p ≠ dots) : nameB p = decide (p.length ≤ 24) := by
  obtain ⟨h3, h4⟩ := realB_iff.1 hr
  have h5 : 1 ≤ p.length := by
    cases p with
    | nil => exact absurd rfl h3
    | cons x p => simp
  unfold nameB
  rw [decide_eq_true (show p ≠ [46] from h4), decide_eq_true (show p ≠ [46, 46] from hd), decide_eq_true h1, decide_eq_true h2, decide_eq_true h5]
  cases decide (p.length ≤ 24) <;> rfl

set_option maxHeartbeats 1000000 in
theorem split_any (s : ByteArray) (m : Nat) (w : World) (hm : m ≤ 1000) :
    Calls Tryz.prog 158 #[.string s, .int .i64 m] w (Gives2 (psOf (codeS m (nb s)) (nb s)) (codeS m (nb s)) w) := by
  have hsz := nb_length s
  have ho := Lib.hid (nb_octs s)
  by_cases h1 : nb s = []
  · have hc := Lib.hid (show codeS m (nb s) = 2 from if_pos (.inl h1))
    have t1 : s.toList = [] := by simpa [h1] using empty_is s
    clear h1 hsz
    go_enter Tryz.func158, Tryz.ntmps158
    go_wp2_with fail
    go_ret2
    refine ⟨_, by rw [hc.out]; rfl, ?_, Below.refl _ _⟩
    rw [hc.out]; exact .nil _ _
  have t1 : s.toList.isEmpty = false := by rw [empty_is, decide_eq_false h1]
  by_cases h2 : 0 ∈ nb s
  · have hc := Lib.hid (show codeS m (nb s) = 2 from if_pos (.inr h2))
    have h2' := Lib.hid h2
    clear h1 h2 hsz
    go_enter Tryz.func158, Tryz.ntmps158
    go_wp2_with (go_at_call 186; refine (place_yes s _ 0 _ rfl (by omega) h2'.out).mono ?_; rintro e w1 ⟨⟨p, rfl⟩, rfl⟩)
    go_ret2
    refine ⟨_, by rw [hc.out]; rfl, ?_, Below.refl _ _⟩
    rw [hc.out]; exact .nil _ _
  have h2' := Lib.hid h2
  by_cases h3 : m < s.size
  · have hc := Lib.hid (show codeS m (nb s) = 11 by rw [codeS, if_neg (not_or.2 ⟨h1, h2⟩), if_pos (.inl (by rw [hsz]; exact h3))])
    clear h1 h2 hsz
    go_enter Tryz.func158, Tryz.ntmps158
    go_wp2_with (go_at_call 186; refine (place_no s _ 0 _ rfl (by omega) h2'.out).mono ?_; rintro e w1 ⟨rfl, rfl⟩)
    go_ret2
    refine ⟨_, by rw [hc.out]; rfl, ?_, Below.refl _ _⟩
    rw [hc.out]; exact .nil _ _
  have hbad := Lib.hid (fun h : longL (partsL (nb s)) = true => show codeS m (nb s) = 11 by rw [codeS, if_neg (not_or.2 ⟨h1, h2⟩), if_pos (.inr h)])
  have hgood := Lib.hid (fun h : longL (partsL (nb s)) = false => show codeS m (nb s) = 0 by rw [codeS, if_neg (not_or.2 ⟨h1, h2⟩), if_neg (by rw [h, hsz]; simp; omega)])
  have hmem := Lib.hid (fun p (h : p ∈ pcs [] (nb s)) => show 47 ∉ p ∧ 0 ∉ p from ⟨(pcs_mem _ _ p (by simp) h).1, fun h0 => h2 (((pcs_mem _ _ p (by simp) h).2 0 h0).resolve_left (by simp))⟩)
  have hoc := Lib.hid (fun p (h : p ∈ pcs [] (nb s)) => show Octs p from ho.out.of fun x hx => ((pcs_mem _ _ p (by simp) h).2 x hx).resolve_left (by simp))
  clear h1 h2 hsz ho
  go_enter Tryz.func158, Tryz.ntmps158
  go_wp2_with (first
    | (go_at_call 186; refine (place_no s _ 0 _ rfl (by omega) h2'.out).mono ?_; rintro e w1 ⟨rfl, rfl⟩)
    | (go_at_call 184; refine (clone_c s _ (by omega)).mono ?_; rintro e w1 ⟨rfl, hb⟩; have hb1 := Lib.hid hb; clear hb)
    | (go_at_call 187; refine (split_c s _ (by omega)).mono ?_; rintro e w2 ⟨n, g, rfl, hn, ht, hb⟩; have hn2 := Lib.hid hn; have ht2 := Lib.hid ht; have hb2 := Lib.hid (hb1.out.trans (hb.mono hb1.out.size)); clear hn ht hb hb1))
  have hn3 : n ≤ 2000 := by
    have h4 := sizeL_len (pcs [] (nb s))
    rw [pcs_size, nb_length, ← hn2.out] at h4
    simp at h4
    omega
  go_loopw [6, 26] (fun v i wr => SpRel (pcs [] (nb s)) (partsL (nb s)) (some ⟨g, 0, none⟩) w2 v i wr) (fun _ i _ => n - (intOf i).toNat)
  case atStart => exact ⟨0, [], by omega, rfl, .nil _ _, ht2.out, Below.refl _ _, (by rw [List.drop_zero, List.nil_append]; rfl), by simp, fun p hp => absurd hp (by simp)⟩
  case round =>
    obtain ⟨k, out, hk, rfl, hO, hT, hB, hQ, h20, hle⟩ := hrel
    rw [← hn2.out] at hk
    have hO' := Lib.hid hO
    have hT' := Lib.hid hT
    have hB' := Lib.hid hB
    have hQ' := Lib.hid hQ
    have h20' := Lib.hid h20
    have hle' := Lib.hid hle
    by_cases hlt : k < n
    · have hkP := Lib.hid (show k < (pcs [] (nb s)).length by rw [← hn2.out]; exact hlt)
      have c1 := hT.cell hkP.out
      have hd := Lib.hid (tz_drop hkP.out)
      have hm1 := Lib.hid (hmem.out _ (tz_mem hkP.out))
      have ho1 := hoc.out _ (tz_mem hkP.out)
      obtain ⟨p, hp⟩ : ∃ p, tz (pcs [] (nb s)) k = p := ⟨_, rfl⟩
      rw [hp] at c1 hd hm1 ho1
      have he := empty_str p
      have hs1 := dot_str ho1
      have hs2 := dots_str ho1
      have hnb := Lib.hid (nb_strOf ho1)
      have hsz := Lib.hid (strOf_size p)
      have ho' := Lib.hid ho1
      obtain ⟨x, hx⟩ : ∃ x, strOf p = x := ⟨_, rfl⟩
      rw [hx] at c1 he hs1 hs2 hnb hsz
      have hx' := Lib.hid hx
      rw [Nat.zero_add] at c1
      have hnext := Lib.hid (fun (wr' : World) (v' : Value) (out' : List (List Nat)) (h1 : OwnT wr' w2.heap.size v' out') (h2 : Below w2.heap.size w2 wr') (h3 : out' ++ ((pcs [] (nb s)).drop (k + 1)).filter realB = partsL (nb s)) (h4 : out'.length ≤ 20) (h5 : ∀ p ∈ out', p.length ≤ 24) => show SpRel (pcs [] (nb s)) (partsL (nb s)) (some ⟨g, 0, none⟩) w2 v' (.int .i64 ((k : Int) + 1)) wr' from ⟨k + 1, out', by rw [← hn2.out]; omega, by go_num, h1, ht2.out.on h2 (Nat.le_refl _), h2, h3, h4, h5⟩)
      obtain ⟨a, cap, rfl, _⟩ := hO.slice
      clear hO hT hB hQ h20 hle hx hp ho1
      by_cases h1 : p = []
      · have e1 : x.toList = [] := by rw [decide_eq_true h1] at he; exact List.isEmpty_iff.1 he
        have hf := Lib.hid (show out ++ ((pcs [] (nb s)).drop (k + 1)).filter realB = partsL (nb s) by rw [← hQ'.out, hd.out, h1, List.filter_cons_of_neg (by decide)])
        clear he hs1 hs2 h1
        go_wp2_with fail
        exact ⟨hnext.out _ _ _ hO'.out hB'.out hf.out h20'.out hle'.out, by simp [intOf]; omega⟩
      · rw [decide_eq_false h1] at he
        by_cases h2 : p = dot
        · have e1 : (x.toList == [46]) = true := by rw [← decide_eq_true h2]; exact hs1
          have hf := Lib.hid (show out ++ ((pcs [] (nb s)).drop (k + 1)).filter realB = partsL (nb s) by rw [← hQ'.out, hd.out, h2, List.filter_cons_of_neg (by decide)])
          clear hs1 hs2 h1 h2
          go_wp2_with fail
          exact ⟨hnext.out _ _ _ hO'.out hB'.out hf.out h20'.out hle'.out, by simp [intOf]; omega⟩
        · have e1 : (x.toList == [46]) = false := by rw [← decide_eq_false h2]; exact hs1
          have hr := realB_iff.2 ⟨h1, h2⟩
          have hr' := Lib.hid hr
          have hq := Lib.hid (show out ++ p :: ((pcs [] (nb s)).drop (k + 1)).filter realB = partsL (nb s) by rw [← hQ'.out, hd.out, List.filter_cons_of_pos hr])
          clear hs1 h1 h2 hr
          by_cases h3 : out.length = 20
          · have e2 : ((out.length : Int) == 20) = true := by rw [h3]; rfl
            have hc := Lib.hid (hbad.out (by
              cases h : longL (partsL (nb s))
              · obtain ⟨_, h4⟩ := longL_no.1 h
                rw [← hq.out, List.length_append, List.length_cons] at h4
                omega
              · rfl))
            clear hs2 h3
            go_wp2_with fail
            go_ret2
            refine ⟨_, by rw [hc.out]; rfl, ?_, hb2.out.trans (hB'.out.mono hb2.out.size)⟩
            rw [hc.out]; exact .nil _ _
          · have e2 : ((out.length : Int) == 20) = false := by rw [beq_eq_false_iff_ne]; omega
            have h20n := Lib.hid (show out.length + 1 ≤ 20 by have := h20'.out; omega)
            have hOa := Lib.hid (hO'.out.alloc (.cells #[.string x] 9))
            have hNa := Lib.hid (show TAt (wr.alloc (.cells #[.string x] 9)) (some ⟨wr.heap.size, 0, none⟩) [p] by rw [← hx'.out]; exact text_new wr p)
            have hBa := Lib.hid (hB'.out.alloc hB'.out.size (.cells #[.string x] 9))
            have hza := Lib.hid hBa.out.size
            by_cases h4 : p = dots
            · rw [decide_eq_true h4] at hs2
              have h24 := Lib.hid (show p.length ≤ 24 by rw [h4]; decide)
              clear h4 h3
              go_wp2_with (at_builtin; refine wpList_append_texts rfl (.tmp 48) (.tmp 50) rfl w2.heap.size _ out rfl hOa.out ⟨wr.heap.size, 0, none⟩ 1 1 [p] rfl rfl hNa.out (by have := h20n.out; omega) hza.out ?_)
              intro v' w' hov hg2 hbl
              have hend := Lib.hid (hnext.out w' v' (out ++ [p]) hov.out (hBa.out.trans hbl) (by rw [List.append_assoc]; exact hq.out) (by rw [List.length_append]; exact h20n.out) (fun q hq2 => by
                rcases List.mem_append.1 hq2 with h | h
                · exact hle'.out q h
                · obtain rfl := List.mem_singleton.1 h
                  exact h24.out))
              clear hg2 hbl
              go_wp2_with fail
              exact ⟨hend.out, by simp [intOf]; omega⟩
            · rw [decide_eq_false h4] at hs2
              by_cases h24 : p.length ≤ 24
              · have hname := Lib.hid (show nameB (nb x) = true by rw [hnb.out, nameB_part hm1.out.1 hm1.out.2 hr'.out h4, decide_eq_true h24])
                have h24' := Lib.hid h24
                clear h4 h3 h24
                go_wp2_with (first
                  | (go_at_call 188; refine (name_is x true _ hname.out).mono ?_; rintro e w3 ⟨rfl, rfl⟩)
                  | (at_builtin; refine wpList_append_texts rfl (.tmp 48) (.tmp 50) rfl w2.heap.size _ out rfl hOa.out ⟨wr.heap.size, 0, none⟩ 1 1 [p] rfl rfl hNa.out (by have := h20n.out; omega) hza.out ?_))
                intro v' w' hov hg2 hbl
                have hend := Lib.hid (hnext.out w' v' (out ++ [p]) hov.out (hBa.out.trans hbl) (by rw [List.append_assoc]; exact hq.out) (by rw [List.length_append]; exact h20n.out) (fun q hq2 => by
                  rcases List.mem_append.1 hq2 with h | h
                  · exact hle'.out q h
                  · obtain rfl := List.mem_singleton.1 h
                    exact h24'.out))
                clear hg2 hbl
                go_wp2_with fail
                exact ⟨hend.out, by simp [intOf]; omega⟩
              · have hname := Lib.hid (show nameB (nb x) = false by rw [hnb.out, nameB_part hm1.out.1 hm1.out.2 hr'.out h4, decide_eq_false h24])
                have hc := Lib.hid (hbad.out (by
                  cases h : longL (partsL (nb s))
                  · obtain ⟨h5, _⟩ := longL_no.1 h
                    have := h5 p (by rw [← hq.out]; simp)
                    omega
                  · rfl))
                clear h4 h3 h24
                go_wp2_with (go_at_call 188; refine (name_is x false _ hname.out).mono ?_; rintro e w3 ⟨rfl, rfl⟩)
                go_ret2
                refine ⟨_, by rw [hc.out]; rfl, ?_, hb2.out.trans (hB'.out.mono hb2.out.size)⟩
                rw [hc.out]; exact .nil _ _
    · have hk2 : k = n := by omega
      have hfin : out = partsL (nb s) := by
        rw [← hQ, List.drop_of_length_le (by rw [← hn2.out, hk2]; exact Nat.le_refl _), List.filter_nil, List.append_nil]
      have hc := Lib.hid (hgood.out (longL_no.2 (by rw [← hfin]; exact ⟨hle, h20⟩)))
      have hfin' := Lib.hid hfin
      obtain ⟨a, cap, rfl, _⟩ := hO.slice
      clear hO hT hB hQ h20 hle hfin
      go_wp2_with fail
      go_ret2
      refine ⟨_, by rw [hc.out]; rfl, ?_, hb2.out.trans (hB'.out.mono hb2.out.size)⟩
      rw [hc.out, psOf, if_pos rfl, ← hfin'.out]
      exact hO'.out.lower hb2.out.size
end Go.Proofs.YtgcodlicbdaddaaGreatDoor
end
