/-
  What is put is got: in lists; two variables of eight.
-/
import Derived.Test.YtedbfehoeflmgaaClc
import Derived.Deep.WholeRow
set_option linter.unusedVariables false
set_option linter.unusedSimpArgs false
namespace Go.Proofs.Ytedbfehoeflmgaa
open Go.RowKit BigFrame
set_option maxRecDepth 100000

/-- each sector reads as cur; what is not held, or not dirty, is on the disk -/
structure SeeIn (n : Nat) (d : Dk) (cur : Nat → List Nat) (H : List Sx) : Prop where
  low : ∀ x ∈ H, x.pos < n
  pin : ∀ x ∈ H, x.pin = false
  has : ∀ x ∈ H, x.b = cur x.pos
  cln : ∀ x ∈ H, x.dirty = false → d.seen x.pos = cur x.pos
  out : ∀ s, s < n → get H (s : Int) = none → d.seen s = cur s
theorem SeeIn.drop {n : Nat} {d : Dk} {cur : Nat → List Nat} {H : List Sx} (h : SeeIn n d cur H) (hA : Apart H) (k : Nat) : SeeIn n d cur (dropN H k) := by
  have hs : ∀ x, x ∈ dropN H k → x ∈ H := fun x hx => (dropN_sub _ _).subset hx
  refine ⟨fun x hx => h.low x (hs x hx), fun x hx => h.pin x (hs x hx), fun x hx => h.has x (hs x hx), fun x hx => h.cln x (hs x hx), fun s hs2 hg => ?_⟩
  cases hg2 : get H (s : Int) with
  | none => exact h.out s hs2 hg2
  | some x =>
    obtain ⟨hx, hp⟩ := get_some hg2
    have hps : x.pos = s := by omega
    by_cases hf : x.free = true
    · rw [← hps]; exact h.cln x hx (free_dirty hf)
    · exact absurd hp (get_none hg x (dropN_keep hx hf))
where
  free_dirty {x : Sx} (h : x.free = true) : x.dirty = false := by
    unfold Sx.free at h
    cases hd : x.dirty <;> simp_all
theorem SeeIn.trim {n : Nat} {d : Dk} {cur : Nat → List Nat} {H : List Sx} (h : SeeIn n d cur H) (hA : Apart H) (m : Nat) : SeeIn n d cur (trim m H) := h.drop hA _
theorem get_nw {H : List Sx} {x : Sx} {s : Nat} (h : get (nw H x) (s : Int) = none) : s ≠ x.pos ∧ get H (s : Int) = none := by
  have h1 := get_none h
  refine ⟨fun e => h1 x (nw_mem.2 (.inr rfl)) (by rw [e]), ?_⟩
  unfold get
  rw [List.find?_eq_none]
  intro y hy
  simp only [decide_eq_true_eq]
  intro e
  by_cases hp : y.pos = x.pos
  · exact h1 x (nw_mem.2 (.inr rfl)) (by rw [← hp]; exact e)
  · exact h1 y (nw_mem.2 (.inl ⟨hy, hp⟩)) e
theorem SeeIn.nw {n : Nat} {d : Dk} {cur cur' : Nat → List Nat} {H : List Sx} (h : SeeIn n d cur H) {x : Sx} (hp : x.pos < n) (hpin : x.pin = false) (hb : x.b = cur' x.pos) (hd : x.dirty = false → d.seen x.pos = cur' x.pos) (hc : ∀ s, s ≠ x.pos → cur' s = cur s) : SeeIn n d cur' (nw H x) := by
  refine ⟨fun y hy => ?_, fun y hy => ?_, fun y hy => ?_, fun y hy hdy => ?_, fun s hs hg => ?_⟩
  · rcases nw_mem.1 hy with ⟨h1, _⟩ | e
    · exact h.low y h1
    · rw [e]; exact hp
  · rcases nw_mem.1 hy with ⟨h1, _⟩ | e
    · exact h.pin y h1
    · rw [e]; exact hpin
  · rcases nw_mem.1 hy with ⟨h1, h2⟩ | e
    · rw [hc _ h2]; exact h.has y h1
    · rw [e]; exact hb
  · rcases nw_mem.1 hy with ⟨h1, h2⟩ | e
    · rw [hc _ h2]; exact h.cln y h1 hdy
    · rw [e] at hdy ⊢; exact hd hdy
  · obtain ⟨h1, h2⟩ := get_nw hg
    rw [hc _ h1]; exact h.out s hs h2
theorem seen_wrote3 (d : Dk) (a : Nat) (l : List Nat) : (d.wrote a l).seen = updF d.seen a l := appl_snoc d.firm d.waits (a, l)
theorem SeeIn.clean {n : Nat} {d : Dk} {cur : Nat → List Nat} {H : List Sx} (h : SeeIn n d cur H) (hA : Apart H) (hs : Srt H) {x : Sx} (hx : x ∈ H) : SeeIn n (d.wrote x.pos x.b) cur (putS (x.withD false) H) := by
  have hm : ∀ y, y ∈ putS (x.withD false) H → (y = x.withD false) ∨ (y ∈ H ∧ y.pos ≠ x.pos) := fun y hy => by
    rcases put_mem hy with e | ⟨hy, hne⟩
    · exact .inl e
    · exact .inr ⟨hy, fun e => hne (by rw [hA.uniq hy hx e]; rfl)⟩
  refine ⟨fun y hy => ?_, fun y hy => ?_, fun y hy => ?_, fun y hy hdy => ?_, fun s hs2 hg => ?_⟩
  · rcases hm y hy with e | ⟨h1, _⟩
    · rw [e]; exact h.low x hx
    · exact h.low y h1
  · rcases hm y hy with e | ⟨h1, _⟩
    · rw [e]; exact h.pin x hx
    · exact h.pin y h1
  · rcases hm y hy with e | ⟨h1, _⟩
    · rw [e]; exact h.has x hx
    · exact h.has y h1
  · rw [seen_wrote3]
    rcases hm y hy with e | ⟨h1, h2⟩
    · rw [e]
      show updF d.seen x.pos x.b x.pos = cur x.pos
      rw [updF_same]; exact h.has x hx
    · rw [updF_other h2]; exact h.cln y h1 hdy
  · have h1 := get_none hg
    have hsx : s ≠ x.pos := fun e => h1 (x.withD false) (put_self hx rfl) (by rw [e]; rfl)
    rw [seen_wrote3, updF_other hsx]
    refine h.out s hs2 ?_
    unfold get
    rw [List.find?_eq_none]
    intro y hy
    simp only [decide_eq_true_eq]
    intro e
    refine h1 y ?_ e
    have hne : ¬ y.used = (x.withD false).used := fun e2 => by
      have := hs.uniq hy hx e2
      subst this
      exact hsx (by omega)
    exact List.mem_map.2 ⟨y, hy, by rw [if_neg hne]⟩
/-- what was put last -/
def curL (f : Nat → Nat) (h : Nat → Bool) (s : Nat) : List Nat := if h s then fillN (f s : Int) 128 else zs 128
theorem curL_len (f : Nat → Nat) (h : Nat → Bool) (s : Nat) : (curL f h s).length = 128 := by
  unfold curL
  split
  · exact fillN_length _ _
  · exact zs_length _
def updN {α : Type} (f : Nat → α) (a : Nat) (b : α) (i : Nat) : α := if i = a then b else f i
theorem curL_put (f : Nat → Nat) (h : Nat → Bool) (s i : Nat) : curL (updN f s i) (updN h s true) s = fillN (i : Int) 128 := by
  unfold curL updN; simp
theorem curL_oth (f : Nat → Nat) (h : Nat → Bool) (s i : Nat) {t : Nat} (ht : t ≠ s) : curL (updN f s i) (updN h s true) t = curL f h t := by
  unfold curL updN
  rw [if_neg ht, if_neg ht]

/-! ### Two variables of eight -/
def lsv (f : Nat → Nat) : List Value := (List.range 8).map fun k => .int .i64 ((f k : Nat) : Int)
def hsv (f : Nat → Bool) : List Value := (List.range 8).map fun k => .bool (f k)
theorem lsv_get {f : Nat → Nat} {k : Nat} (h : k < 8) : (lsv f)[k]? = some (.int .i64 ((f k : Nat) : Int)) := by simp [lsv, h]
theorem hsv_get {f : Nat → Bool} {k : Nat} (h : k < 8) : (hsv f)[k]? = some (.bool (f k)) := by simp [hsv, h]
theorem lsv_set (f : Nat → Nat) {s : Nat} (i : Nat) : (lsv f).set s (.int .i64 ((i : Nat) : Int)) = lsv (updN f s i) := by
  apply List.ext_getElem?
  intro k
  rw [List.getElem?_set]
  by_cases hk : k < 8
  · by_cases e : s = k
    · rw [if_pos e, if_pos (by simp [lsv]; omega), lsv_get hk, updN, if_pos e.symm]
    · rw [if_neg e, lsv_get hk, lsv_get hk, updN, if_neg (Ne.symm e)]
  · rw [List.getElem?_eq_none (by simp [lsv]; omega), List.getElem?_eq_none (by simp [lsv]; omega)]
    split
    · rw [if_neg (by simp [lsv]; omega)]
    · rfl
theorem hsv_set (f : Nat → Bool) {s : Nat} (i : Bool) : (hsv f).set s (.bool i) = hsv (updN f s i) := by
  apply List.ext_getElem?
  intro k
  rw [List.getElem?_set]
  by_cases hk : k < 8
  · by_cases e : s = k
    · rw [if_pos e, if_pos (by simp [hsv]; omega), hsv_get hk, updN, if_pos e.symm]
    · rw [if_neg e, hsv_get hk, hsv_get hk, updN, if_neg (Ne.symm e)]
  · rw [List.getElem?_eq_none (by simp [hsv]; omega), List.getElem?_eq_none (by simp [hsv]; omega)]
    split
    · rw [if_neg (by simp [hsv]; omega)]
    · rfl
theorem Try.infoL8 : (Try.prog.info? 50).map (fun i => (i.zero, i.size)) = some (some (.agg (lsv fun _ => 0).toArray), 8) := by kernel_rfl
theorem Try.infoH8 : (Try.prog.info? 51).map (fun i => (i.zero, i.size)) = some (some (.agg (hsv fun _ => false).toArray), 8) := by kernel_rfl
theorem zero_L8 (w : World) : (zeroValue 50).run Try.prog w = .ok (.agg (lsv fun _ => 0).toArray) w := (zero_of_info Try.infoL8).1 w
theorem zero_H8 (w : World) : (zeroValue 51).run Try.prog w = .ok (.agg (hsv fun _ => false).toArray) w := (zero_of_info Try.infoH8).1 w
theorem wpList_alloc_L8 {w : World} {ops : Array Oper} {rest : List Oper} {o : Oper} {a : Act} {Q : Exit → Act → World → Prop} (hgd : o.guard = none) (ho : o.op = .alloc 50)
    (h : ∀ g w1, Hid (Vw w1 50 g (lsv fun _ => 0)) → g = w.heap.size → Below w.heap.size w w1 → wpList Try.prog ops Q rest (a.put o.dst (.pointer (some ⟨g, 0, none⟩))) w1) : wpList Try.prog ops Q (o :: rest) a w := by
  refine wpList_plain hgd fun K hK => ?_
  have hz := zero_L8 w
  unfold Oper.wp
  simp [execOp, ho, Instr.alloc, Sem.run_bind, hz, newVar, Value.cells, Result.andThen]
  exact hK _ _ (h _ _ (heap_alloc_new w _) rfl ((Below.refl _ _).alloc (Nat.le_refl _) _))
theorem wpList_alloc_H8 {w : World} {ops : Array Oper} {rest : List Oper} {o : Oper} {a : Act} {Q : Exit → Act → World → Prop} (hgd : o.guard = none) (ho : o.op = .alloc 51)
    (h : ∀ g w1, Hid (Vw w1 51 g (hsv fun _ => false)) → g = w.heap.size → Below w.heap.size w w1 → wpList Try.prog ops Q rest (a.put o.dst (.pointer (some ⟨g, 0, none⟩))) w1) : wpList Try.prog ops Q (o :: rest) a w := by
  refine wpList_plain hgd fun K hK => ?_
  have hz := zero_H8 w
  unfold Oper.wp
  simp [execOp, ho, Instr.alloc, Sem.run_bind, hz, newVar, Value.cells, Result.andThen]
  exact hK _ _ (h _ _ (heap_alloc_new w _) rfl ((Below.refl _ _).alloc (Nat.le_refl _) _))
end Go.Proofs.Ytedbfehoeflmgaa
