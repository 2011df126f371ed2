/-
  What a cache holds: sectors by age; the oldest of those that may go, gone; no memory here.
  A cache in memory: where it lies, what stays of it when other memory turns.
  A cache: one that is held is found; one more is held; one becomes the newest.
  The small calls of a disk: is it on, how many sectors, how many flushes, what is wrong with it; its power comes again.
-/
import Derived.Test.YtnfaeejeipbciaaB1
import Derived.Test.YtnfaeejeipbciaaB4
import Derived.Test.YtnfaeejeipbciaaB3
import Derived.StillTailTactics

section
set_option linter.unusedVariables false
set_option linter.unusedSimpArgs false
namespace Go.Proofs.Ytnfaeejeipbciaa

/-- a sector that is held: its block, its place, its bytes, its age, whether it is dirty, whether it is pinned -/
structure Sx where
  blk : Nat
  pos : Nat
  b : List Nat
  used : Nat
  dirty : Bool
  pin : Bool
def Sx.free (x : Sx) : Bool := !x.dirty && !x.pin
/-- those that may go -/
def fr (H : List Sx) : List Sx := H.filter Sx.free
/-- those that may go, but x -/
def frx (x : Sx) (H : List Sx) : List Sx := H.filter fun y => y.free && decide (y.used ≠ x.used)
/-- all but x -/
def but (x : Sx) (H : List Sx) : List Sx := H.filter fun y => decide (y.used ≠ x.used)
/-- the sector that is held of a place -/
def get (H : List Sx) (a : Int) : Option Sx := H.find? fun x => decide ((x.pos : Int) = a)
/-- the oldest n of those that may go, gone -/
def dropN : List Sx → Nat → List Sx
  | [], _ => []
  | x :: r, n => if x.free = true ∧ 0 < n then dropN r (n - 1) else x :: dropN r n
/-- x instead of the one of its age -/
def putS (x : Sx) (H : List Sx) : List Sx := H.map fun y => if y.used = x.used then x else y

theorem dropN_zero : ∀ H : List Sx, dropN H 0 = H
  | [] => rfl
  | x :: r => by rw [dropN, if_neg (by omega), dropN_zero r]
theorem dropN_sub : ∀ (H : List Sx) (n : Nat), (dropN H n).Sublist H
  | [], _ => List.Sublist.refl _
  | x :: r, n => by
    rw [dropN]
    split
    · exact (dropN_sub r (n - 1)).cons _
    · exact (dropN_sub r n).cons_cons _
theorem fr_cons (x : Sx) (r : List Sx) : fr (x :: r) = if x.free = true then x :: fr r else fr r := by
  unfold fr; rw [List.filter_cons]
theorem dropN_fr : ∀ (H : List Sx) (n : Nat), fr (dropN H n) = (fr H).drop n
  | [], n => by simp [dropN, fr]
  | x :: r, n => by
    rw [dropN]
    split
    · rename_i h
      rw [dropN_fr r (n - 1), fr_cons, if_pos h.1]
      obtain ⟨m, rfl⟩ : ∃ m, n = m + 1 := ⟨n - 1, by omega⟩
      rfl
    · rename_i h
      rw [fr_cons, fr_cons, dropN_fr r n]
      by_cases hx : x.free = true
      · have : n = 0 := by
          by_cases hn : 0 < n
          · exact absurd ⟨hx, hn⟩ h
          · omega
        subst this
        rw [if_pos hx, if_pos hx]; rfl
      · rw [if_neg hx, if_neg hx]
theorem dropN_len : ∀ (H : List Sx) (n : Nat), (dropN H n).length = H.length - min n (fr H).length
  | [], n => by simp [dropN]
  | x :: r, n => by
    have hle : (fr r).length ≤ r.length := List.length_filter_le _ _
    rw [dropN, fr_cons]
    split
    · rename_i h
      rw [dropN_len r (n - 1), if_pos h.1]
      simp only [List.length_cons]
      omega
    · rename_i h
      simp only [List.length_cons]
      rw [dropN_len r n]
      by_cases hx : x.free = true
      · have : n = 0 := by
          by_cases hn : 0 < n
          · exact absurd ⟨hx, hn⟩ h
          · omega
        subst this
        simp
      · rw [if_neg hx]; omega
theorem dropN_add : ∀ (H : List Sx) (a b : Nat), dropN (dropN H a) b = dropN H (a + b)
  | [], _, _ => rfl
  | x :: r, a, b => by
    by_cases h : x.free = true ∧ 0 < a
    · rw [dropN, if_pos h, dropN_add r (a - 1) b]
      rw [show dropN (x :: r) (a + b) = dropN r (a + b - 1) from by rw [dropN, if_pos ⟨h.1, by omega⟩]]
      congr 1; omega
    · rw [show dropN (x :: r) a = x :: dropN r a from by rw [dropN, if_neg h]]
      rw [dropN, dropN_add r a b, dropN_add r a (b - 1)]
      by_cases hx : x.free = true
      · have : a = 0 := by
          by_cases hn : 0 < a
          · exact absurd ⟨hx, hn⟩ h
          · omega
        subst this
        simp only [Nat.zero_add]
        rw [dropN]
      · rw [if_neg (fun e => hx e.1), dropN, if_neg (fun e => hx e.1)]
/-- those that may go as well as all the others, if not so many are -/
theorem dropN_all (H : List Sx) (n : Nat) (h : (fr H).length ≤ n) : dropN H n = H.filter fun x => !x.free := by
  induction H generalizing n with
  | nil => rfl
  | cons x r ih =>
    rw [dropN, List.filter_cons]
    rw [fr_cons] at h
    by_cases hx : x.free = true
    · rw [if_pos hx] at h
      simp only [List.length_cons] at h
      rw [if_pos ⟨hx, by omega⟩, ih (n - 1) (by omega), hx]; rfl
    · rw [if_neg hx] at h
      rw [if_neg (fun e => hx e.1), ih n h, if_pos (by simpa using hx)]

/-! ### In order -/
def Srt (H : List Sx) : Prop := H.Pairwise fun x y => x.used < y.used
theorem Srt.uniq : ∀ {H : List Sx}, Srt H → ∀ {x y : Sx}, x ∈ H → y ∈ H → x.used = y.used → x = y
  | [], _, _, _, h, _, _ => by simp at h
  | a :: r, hs, x, y, hx, hy, e => by
    obtain ⟨h1, h2⟩ := List.pairwise_cons.1 hs
    rcases List.mem_cons.1 hx with ex | hx2
    · rcases List.mem_cons.1 hy with ey | hy2
      · rw [ex, ey]
      · have := h1 y hy2; rw [← ex] at this; omega
    · rcases List.mem_cons.1 hy with ey | hy2
      · have := h1 x hx2; rw [← ey] at this; omega
      · exact Srt.uniq h2 hx2 hy2 e
/-- how many are older than x -/
def older (x : Sx) (L : List Sx) : Nat := L.countP fun y => decide (y.used < x.used)
theorem older_le (x : Sx) (L : List Sx) : older x L ≤ L.length := List.countP_le_length
theorem older_cons (x y : Sx) (L : List Sx) : older x (y :: L) = if y.used < x.used then older x L + 1 else older x L := by
  unfold older
  rw [List.countP_cons]
  split <;> simp_all
theorem older_none {x : Sx} : ∀ {L : List Sx}, (∀ y ∈ L, x.used ≤ y.used) → older x L = 0 := fun h => by
  unfold older
  rw [List.countP_eq_zero]
  intro y hy
  have := h y hy
  simp; omega
/-- x put at its place among the others: all of them -/
theorem ins_fr : ∀ {H : List Sx}, Srt H → ∀ {x : Sx}, x ∈ H → x.free = true → (frx x H).take (older x (frx x H)) ++ x :: (frx x H).drop (older x (frx x H)) = fr H
  | [], _, _, h, _ => by simp at h
  | a :: r, hs, x, hx, hf => by
    obtain ⟨h1, h2⟩ := List.pairwise_cons.1 hs
    by_cases e : a.used = x.used
    · have ea : a = x := Srt.uniq hs List.mem_cons_self hx e
      subst ea
      have e1 : frx a (a :: r) = fr r := by
        unfold frx fr
        rw [List.filter_cons, if_neg (by simp)]
        refine List.filter_congr fun y hy => ?_
        have := h1 y hy
        rw [decide_eq_true (show y.used ≠ a.used by omega), Bool.and_true]
      have e2 : older a (fr r) = 0 := older_none fun y hy => Nat.le_of_lt (h1 y (List.mem_filter.1 hy).1)
      rw [e1, e2, fr_cons, if_pos hf]; rfl
    · have hx' : x ∈ r := by
        rcases List.mem_cons.1 hx with h | h
        · exact absurd (congrArg Sx.used h.symm) e
        · exact h
      have hlt := h1 x hx'
      have ih := ins_fr h2 hx' hf
      by_cases ha : a.free = true
      · have e1 : frx x (a :: r) = a :: frx x r := by
          unfold frx
          rw [List.filter_cons, if_pos (by simp [ha, e])]
        rw [e1, older_cons, if_pos hlt, fr_cons, if_pos ha]
        simp only [List.take_succ_cons, List.drop_succ_cons, List.cons_append]
        rw [ih]
      · have e1 : frx x (a :: r) = frx x r := by
          unfold frx
          rw [List.filter_cons, if_neg (by simp [ha])]
        rw [e1, ih, fr_cons, if_neg ha]
/-- where x stands in a list in order; without it -/
theorem at_older : ∀ {L : List Sx}, Srt L → ∀ {x : Sx}, x ∈ L → L[older x L]? = some x ∧ L.take (older x L) ++ L.drop (older x L + 1) = but x L
  | [], _, _, h => by simp at h
  | a :: r, hs, x, hx => by
    obtain ⟨h1, h2⟩ := List.pairwise_cons.1 hs
    by_cases e : a.used = x.used
    · have ea : a = x := Srt.uniq hs List.mem_cons_self hx e
      subst ea
      have e0 : older a (a :: r) = 0 := older_none fun y hy => by
        rcases List.mem_cons.1 hy with rfl | hy
        · exact Nat.le_refl _
        · exact Nat.le_of_lt (h1 y hy)
      rw [e0]
      refine ⟨rfl, ?_⟩
      unfold but
      rw [List.filter_cons, if_neg (by simp)]
      rw [List.filter_eq_self.2]
      · rfl
      · intro y hy
        have := h1 y hy
        simp; omega
    · have hx' : x ∈ r := by
        rcases List.mem_cons.1 hx with h | h
        · exact absurd (congrArg Sx.used h.symm) e
        · exact h
      obtain ⟨i1, i2⟩ := at_older h2 hx'
      rw [older_cons, if_pos (h1 x hx')]
      refine ⟨by simpa using i1, ?_⟩
      simp only [List.take_succ_cons, List.drop_succ_cons, List.cons_append]
      rw [i2]
      unfold but
      rw [List.filter_cons, if_pos (by simp [e])]
/-- x is not there: it is not found -/
theorem not_older {L : List Sx} {x : Sx} (h : ∀ y ∈ L, y.used ≠ x.used) (y : Sx) (hy : L[older x L]? = some y) : ¬ y.used = x.used := h y (List.mem_of_getElem? hy)
theorem but_none {L : List Sx} {x : Sx} (h : ∀ y ∈ L, y.used ≠ x.used) : but x L = L := by
  unfold but
  rw [List.filter_eq_self]
  intro y hy
  simpa using h y hy
theorem but_fr (x : Sx) (H : List Sx) : but x (fr H) = frx x H := by
  unfold but fr frx
  rw [List.filter_filter]
  refine List.filter_congr fun y _ => ?_
  cases y.free <;> simp

/-! ### Places -/
theorem get_some {H : List Sx} {a : Int} {x : Sx} (h : get H a = some x) : x ∈ H ∧ (x.pos : Int) = a :=
  ⟨List.mem_of_find?_eq_some h, by simpa using List.find?_some h⟩
theorem get_none {H : List Sx} {a : Int} (h : get H a = none) : ∀ x ∈ H, (x.pos : Int) ≠ a := fun x hx => by
  have := List.find?_eq_none.1 h x hx
  simpa using this
def Apart (H : List Sx) : Prop := (H.map Sx.pos).Nodup
theorem Apart.uniq : ∀ {H : List Sx}, Apart H → ∀ {x y : Sx}, x ∈ H → y ∈ H → x.pos = y.pos → x = y
  | [], _, _, _, h, _, _ => by simp at h
  | a :: r, hs, x, y, hx, hy, e => by
    have hs' : (a.pos :: r.map Sx.pos).Nodup := hs
    obtain ⟨h1, h2⟩ := List.nodup_cons.1 hs'
    rcases List.mem_cons.1 hx with ex | hx2
    · rcases List.mem_cons.1 hy with ey | hy2
      · rw [ex, ey]
      · exact absurd (List.mem_map.2 ⟨y, hy2, by rw [← e, ex]⟩) h1
    · rcases List.mem_cons.1 hy with ey | hy2
      · exact absurd (List.mem_map.2 ⟨x, hx2, by rw [e, ey]⟩) h1
      · exact Apart.uniq h2 hx2 hy2 e
theorem Apart.sub {H H' : List Sx} (h : Apart H) (hs : H'.Sublist H) : Apart H' := h.sublist (hs.map _)
theorem get_at {H : List Sx} (hA : Apart H) {x : Sx} (hx : x ∈ H) : get H (x.pos : Int) = some x := by
  cases h : get H (x.pos : Int) with
  | none => exact absurd rfl (get_none h x hx)
  | some y =>
    obtain ⟨h1, h2⟩ := get_some h
    rw [hA.uniq h1 hx (by omega)]
/-- the oldest that may go, gone: its place is held no more -/
theorem get_drop1 : ∀ {H : List Sx}, Apart H → ∀ {y : Sx} {r : List Sx}, fr H = y :: r → ∀ a : Int, get (dropN H 1) a = if a = (y.pos : Int) then none else get H a
  | [], _, _, _, h, _ => by simp [fr] at h
  | x :: H, hA, y, r, h, a => by
    have hA' : (x.pos :: H.map Sx.pos).Nodup := hA
    obtain ⟨h1, h2⟩ := List.nodup_cons.1 hA'
    rw [fr_cons] at h
    by_cases hx : x.free = true
    · rw [if_pos hx] at h
      obtain ⟨e1, e2⟩ := List.cons.inj h
      subst e1
      rw [dropN, if_pos ⟨hx, by omega⟩, show (1 : Nat) - 1 = 0 from rfl, dropN_zero]
      by_cases ea : a = (x.pos : Int)
      · rw [if_pos ea]
        unfold get
        rw [List.find?_eq_none]
        intro z hz
        have : z.pos ≠ x.pos := fun e => h1 (List.mem_map.2 ⟨z, hz, e⟩)
        simp only [decide_eq_true_eq]
        omega
      · rw [if_neg ea]
        unfold get
        rw [List.find?_cons, decide_eq_false (fun e => ea e.symm)]
    · rw [if_neg hx] at h
      rw [dropN, if_neg (fun e => hx e.1)]
      have ih := get_drop1 (show Apart H from h2) h a
      have hy : y ∈ H := (List.mem_filter.1 (show y ∈ fr H by rw [h]; exact List.mem_cons_self)).1
      have hne : x.pos ≠ y.pos := fun e => h1 (List.mem_map.2 ⟨y, hy, e.symm⟩)
      unfold get at ih ⊢
      rw [List.find?_cons, List.find?_cons, ih]
      by_cases ea : a = (y.pos : Int)
      · rw [if_pos ea, if_pos ea, decide_eq_false (by omega)]
      · rw [if_neg ea, if_neg ea]
theorem get_dropS {H : List Sx} (hA : Apart H) {k : Nat} {y : Sx} (h : (fr H)[k]? = some y) (a : Int) : get (dropN H (k + 1)) a = if a = (y.pos : Int) then none else get (dropN H k) a := by
  rw [← dropN_add H k 1]
  have hk := (List.getElem?_eq_some_iff.1 h)
  refine get_drop1 (hA.sub (dropN_sub H k)) (y := y) (r := (fr H).drop (k + 1)) ?_ a
  rw [dropN_fr, List.drop_eq_getElem_cons hk.1, hk.2]
theorem nodup_below : ∀ (n : Nat) {l : List Nat}, l.Nodup → (∀ x ∈ l, x < n) → l.length ≤ n
  | 0, l, _, hs => by
    cases l with
    | nil => simp
    | cons x r => exact absurd (hs x List.mem_cons_self) (by omega)
  | n + 1, l, hn, hs => by
    have ih := nodup_below n (l := l.erase n) (hn.erase n) fun x hx => by
      have h1 := hs x (List.mem_of_mem_erase hx)
      have h2 : x ≠ n := fun e => by subst e; exact absurd hx hn.not_mem_erase
      omega
    by_cases hm : n ∈ l
    · rw [List.length_erase_of_mem hm] at ih; omega
    · rw [List.erase_of_not_mem hm] at ih; omega
end Go.Proofs.Ytnfaeejeipbciaa
end

section
set_option linter.unusedVariables false
set_option linter.unusedSimpArgs false
namespace Go.Proofs.Ytnfaeejeipbciaa
open Go.RowKit BigFrame

def pv (b : Nat) : Value := .pointer (some ⟨b, 0, none⟩)
def Sx.cells (x : Sx) : List Value := .int .i64 ((x.pos : Nat) : Int) :: (bv x.b ++ [.int .i64 ((x.used : Nat) : Int), .bool x.dirty, .bool x.pin])
theorem Sx.c0 (x : Sx) : x.cells[0]? = some (.int .i64 ((x.pos : Nat) : Int)) := rfl
theorem Sx.c129 {x : Sx} (h : x.b.length = 128) : x.cells[129]? = some (.int .i64 ((x.used : Nat) : Int)) := by
  unfold Sx.cells
  rw [List.getElem?_cons_succ, List.getElem?_append_right (by rw [bv_length, h]; exact Nat.le_refl _), bv_length, h]; rfl
theorem Sx.c130 {x : Sx} (h : x.b.length = 128) : x.cells[130]? = some (.bool x.dirty) := by
  unfold Sx.cells
  rw [List.getElem?_cons_succ, List.getElem?_append_right (by rw [bv_length, h]; omega), bv_length, h]; rfl
theorem Sx.c131 {x : Sx} (h : x.b.length = 128) : x.cells[131]? = some (.bool x.pin) := by
  unfold Sx.cells
  rw [List.getElem?_cons_succ, List.getElem?_append_right (by rw [bv_length, h]; omega), bv_length, h]; rfl
theorem Sx.csize {x : Sx} (h : x.b.length = 128) : x.cells.length = 132 := by simp [Sx.cells, bv_length, h]
theorem Sx.range (x : Sx) : (x.cells.drop 1).take x.b.length = bv x.b := by
  unfold Sx.cells
  rw [List.drop_succ_cons, List.drop_zero, List.take_append_of_le_length (by rw [bv_length]; exact Nat.le_refl _), List.take_of_length_le (by rw [bv_length]; exact Nat.le_refl _)]
theorem Sx.set129 {x : Sx} (h : x.b.length = 128) (u : Nat) : x.cells.set 129 (.int .i64 ((u : Nat) : Int)) = ({ x with used := u } : Sx).cells := by
  unfold Sx.cells
  rw [List.set_cons_succ, List.set_append_right _ _ (by rw [bv_length, h]; exact Nat.le_refl _), bv_length, h]; rfl
theorem Sx.set130 {x : Sx} (h : x.b.length = 128) (u : Bool) : x.cells.set 130 (.bool u) = ({ x with dirty := u } : Sx).cells := by
  unfold Sx.cells
  rw [List.set_cons_succ, List.set_append_right _ _ (by rw [bv_length, h]; omega), bv_length, h]; rfl
theorem Sx.set131 {x : Sx} (h : x.b.length = 128) (u : Bool) : x.cells.set 131 (.bool u) = ({ x with pin := u } : Sx).cells := by
  unfold Sx.cells
  rw [List.set_cons_succ, List.set_append_right _ _ (by rw [bv_length, h]; omega), bv_length, h]; rfl
theorem Sx.setb {x : Sx} (h : x.b.length = 128) {l : List Nat} (hl : l.length = 128) : splice x.cells 1 (bv l) = ({ x with b := l } : Sx).cells := by
  have h1 : (bv x.b).length = 128 := by rw [bv_length, h]
  have h2 : (bv l).length = 128 := by rw [bv_length, hl]
  unfold splice Sx.cells
  rw [List.take_succ_cons, List.take_zero, h2, show 1 + 128 = 128 + 1 from rfl, List.drop_succ_cons, List.drop_append_of_le_length (by rw [h1]; exact Nat.le_refl _), List.drop_of_length_le (by rw [h1]; exact Nat.le_refl _)]
  rfl

/-- a cache: where it lies, its disk, how many it may hold, how many there were, what it holds -/
structure Ck where
  C : Nat
  M : Nat
  G : Nat
  lv : Value
  most : Nat
  uses : Nat
  H : List Sx
def Ck.foot (c : Ck) : List Nat := c.C :: c.M :: (c.lv.ownBlock.toList ++ c.H.map Sx.blk)
def Ck.cells (c : Ck) : List Value := [pv c.G, .int .i64 ((c.most : Nat) : Int), .int .i64 ((c.uses : Nat) : Int), .map (some c.M), c.lv]
def pvs (L : List Sx) : List Value := L.map fun x => pv x.blk
theorem pvs_len (L : List Sx) : (pvs L).length = L.length := by simp [pvs]
theorem pvs_get {L : List Sx} {k : Nat} {x : Sx} (h : L[k]? = some x) : (pvs L)[k]? = some (pv x.blk) := by simp [pvs, h]
theorem pvs_one (L : List Sx) : ∀ v ∈ pvs L, v.oneCell' = true := by
  intro v hv
  obtain ⟨k, _, rfl⟩ := List.mem_map.1 hv
  rfl
/-- the map of what is held -/
def MapIs (w : World) (M : Nat) (H : List Sx) : Prop := ∃ l, MapAt 3 w M l ∧ l.length = H.length ∧ ∀ a : Int, fndL l (.int .i64 a) = (get H a).map fun x => pv x.blk
/-- a cache in memory; L: those that its list has -/
structure CkM (w : World) (B : Nat) (c : Ck) (L : List Sx) : Prop where
  hdr : Vw w 73 c.C c.cells
  map : MapIs w c.M c.H
  sec : ∀ x ∈ c.H, Vw w 86 x.blk x.cells
  own : w.ownsRow B 81 1 c.lv L.length (pvs L)
  blk : (c.H.map Sx.blk).Nodup
  over : ∀ k ∈ c.foot, B ≤ k
/-- what holds of what it holds -/
structure CkOk (c : Ck) (L : List Sx) : Prop where
  srt : Srt c.H
  top : ∀ x ∈ c.H, x.used ≤ c.uses
  pos : Apart c.H
  low : ∀ x ∈ c.H, x.pos < 2048
  len : ∀ x ∈ c.H, x.b.length = 128
  sub : L.Sublist c.H
theorem CkOk.few {c : Ck} {L : List Sx} (h : CkOk c L) : c.H.length ≤ 2048 := by
  have := nodup_below 2048 h.pos fun x hx => by
    obtain ⟨y, hy, rfl⟩ := List.mem_map.1 hx
    exact h.low y hy
  simpa using this
theorem CkOk.fewL {c : Ck} {L : List Sx} (h : CkOk c L) : L.length ≤ 2048 := Nat.le_trans h.sub.length_le h.few

theorem MapIs.blk {w w' : World} {M : Nat} {H : List Sx} (h : MapIs w M H) (e : w'.heap[M]? = w.heap[M]?) : MapIs w' M H := by
  obtain ⟨l, h1, h2, h3⟩ := h
  exact ⟨l, h1.blk e, h2, h3⟩
theorem MapIs.obj {w : World} {M : Nat} {H : List Sx} (h : MapIs w M H) : M < w.heap.size ∧ ∃ es c, w.heap[M]? = some (.map es c) := by
  obtain ⟨l, h1, _⟩ := h
  refine ⟨h1.lt, ?_⟩
  obtain ⟨es, c, hb, _⟩ := h1
  exact ⟨es, c, hb⟩
theorem own_blk {w w' : World} {B : Nat} {t : TypeId} {v : Value} {n : Nat} {X : List Value} (h : w.ownsRow B t 1 v n X) (e : ∀ k, v.ownBlock = some k → w'.heap[k]? = w.heap[k]?) : w'.ownsRow B t 1 v n X := ownsRow_block h e
theorem own_obj {w : World} {B : Nat} {t : TypeId} {v : Value} {n : Nat} {X : List Value} (h : w.ownsRow B t 1 v n X) : ∀ k, v.ownBlock = some k → k < w.heap.size ∧ ∃ c, w.heap[k]? = some (.cells c t (0, 0)) := fun k hk => by
  rcases h.2 with ⟨rfl, _⟩ | ⟨g, cap, cur, rfl, hb, hg, r⟩
  · cases hk
  · cases hk
    exact ⟨(Array.getElem?_eq_some_iff.1 hg).1, cur, hg⟩
theorem own_form1 {w : World} {B : Nat} {v : Value} {L : List Sx} (h : w.ownsRow B 81 1 v L.length (pvs L)) :
    (v = .slice none 0 0 ∧ L = []) ∨ ∃ g cap cur, v = .slice (some ⟨g, 0, none⟩) L.length cap ∧ Vw w 81 g cur ∧ cur.length = cap ∧ L.length ≤ cap ∧ cap ≤ maxLen ∧ B ≤ g ∧ ∀ (k : Nat) (x : Sx), L[k]? = some x → cur[k]? = some (pv x.blk) := by
  rcases h.2 with ⟨rfl, h0⟩ | ⟨g, cap, cur, rfl, hb, hg, hn, hm, hs, ht⟩
  · exact .inl ⟨rfl, List.eq_nil_of_length_eq_zero h0⟩
  · refine .inr ⟨g, cap, cur.toList, rfl, by unfold Vw; rw [hg], by rw [Array.length_toList, hs]; omega, hn, hm, hb, fun k x hk => ?_⟩
    have := pvs_get hk
    rw [← ht, List.getElem?_take] at this
    split at this
    · exact this
    · cases this
theorem own_of_cur {w : World} {B g cap : Nat} {L : List Sx} {cur : List Value} (hV : Vw w 81 g cur) (hc : cur.length = cap) (hn : L.length ≤ cap) (hm : cap ≤ maxLen) (hB : B ≤ g) (hx : ∀ (k : Nat) (x : Sx), L[k]? = some x → cur[k]? = some (pv x.blk)) :
    w.ownsRow B 81 1 (.slice (some ⟨g, 0, none⟩) L.length cap) L.length (pvs L) := by
  refine ⟨by rw [pvs_len, Nat.mul_one], .inr ⟨g, cap, cur.toArray, rfl, hB, hV, hn, hm, by simp [hc], ?_⟩⟩
  apply List.ext_getElem?
  intro k
  show (cur.take (L.length * 1))[k]? = _
  rw [List.getElem?_take]
  by_cases h : k < L.length
  · rw [if_pos (by omega), hx k _ (List.getElem?_eq_getElem h), pvs_get (List.getElem?_eq_getElem h)]
  · rw [if_neg (by omega), List.getElem?_eq_none (by rw [pvs_len]; omega)]
/-! ### What lies apart -/
section
variable {w w' : World} {B : Nat} {c : Ck} {L : List Sx}
theorem foot_c (c : Ck) : c.C ∈ c.foot := by simp [Ck.foot]
theorem foot_m (c : Ck) : c.M ∈ c.foot := by simp [Ck.foot]
theorem foot_l {k : Nat} (h : c.lv.ownBlock = some k) : k ∈ c.foot := by simp [Ck.foot, h]
theorem foot_x {x : Sx} (h : x ∈ c.H) : x.blk ∈ c.foot := by
  simp only [Ck.foot, List.mem_cons, List.mem_append]
  exact .inr (.inr (.inr (List.mem_map.2 ⟨x, h, rfl⟩)))
theorem foot_cases {k : Nat} (h : k ∈ c.foot) : k = c.C ∨ k = c.M ∨ c.lv.ownBlock = some k ∨ ∃ x ∈ c.H, x.blk = k := by
  simp only [Ck.foot, List.mem_cons, List.mem_append, List.mem_map] at h
  rcases h with h | h | h | h
  · exact .inl h
  · exact .inr (.inl h)
  · exact .inr (.inr (.inl (by simpa using h)))
  · exact .inr (.inr (.inr h))
theorem CkM.lt (h : CkM w B c L) : ∀ k ∈ c.foot, k < w.heap.size := fun k hk => by
  rcases foot_cases hk with rfl | rfl | hk | ⟨x, hx, rfl⟩
  · exact h.hdr.lt
  · exact h.map.obj.1
  · exact (own_obj h.own k hk).1
  · exact (h.sec x hx).lt
theorem vw_type {t t' : TypeId} {g : Nat} {l l' : List Value} (h : Vw w t g l) (h' : Vw w t' g l') : t = t' := by
  unfold Vw at h h'
  rw [h] at h'
  cases h'; rfl
theorem vw_nomap {t : TypeId} {g : Nat} {l : List Value} (h : Vw w t g l) {H : List Sx} : ¬ MapIs w g H := fun hm => by
  obtain ⟨_, es, cc, e⟩ := hm.obj
  unfold Vw at h
  rw [h] at e
  cases e
theorem own_type {t t' : TypeId} {g n : Nat} {v : Value} {X l : List Value} (h : w.ownsRow B t 1 v n X) (hg : v.ownBlock = some g) (h' : Vw w t' g l) : t = t' := by
  obtain ⟨_, cc, e⟩ := own_obj h g hg
  unfold Vw at h'
  rw [e] at h'
  cases h'; rfl
theorem own_nomap {t : TypeId} {g n : Nat} {v : Value} {X : List Value} (h : w.ownsRow B t 1 v n X) (hg : v.ownBlock = some g) {H : List Sx} : ¬ MapIs w g H := fun hm => by
  obtain ⟨_, cc, e⟩ := own_obj h g hg
  obtain ⟨_, es, c2, e2⟩ := hm.obj
  rw [e] at e2
  cases e2
theorem CkM.cm (h : CkM w B c L) : c.C ≠ c.M := fun e => vw_nomap h.hdr (e ▸ h.map)
theorem CkM.cx (h : CkM w B c L) {x : Sx} (hx : x ∈ c.H) : x.blk ≠ c.C := fun e => absurd (vw_type (h.sec x hx) (e ▸ h.hdr)) (by decide)
theorem CkM.mx (h : CkM w B c L) {x : Sx} (hx : x ∈ c.H) : x.blk ≠ c.M := fun e => vw_nomap (h.sec x hx) (e ▸ h.map)
theorem CkM.lc (h : CkM w B c L) {k : Nat} (hk : c.lv.ownBlock = some k) : k ≠ c.C := fun e => absurd (own_type h.own hk (e ▸ h.hdr)) (by decide)
theorem CkM.lm (h : CkM w B c L) {k : Nat} (hk : c.lv.ownBlock = some k) : k ≠ c.M := fun e => own_nomap h.own hk (e ▸ h.map)
theorem CkM.lx (h : CkM w B c L) {k : Nat} (hk : c.lv.ownBlock = some k) {x : Sx} (hx : x ∈ c.H) : k ≠ x.blk := fun e => absurd (own_type h.own hk (e ▸ h.sec x hx)) (by decide)
theorem blk_inj : ∀ {H : List Sx}, (H.map Sx.blk).Nodup → ∀ {x y : Sx}, x ∈ H → y ∈ H → x.blk = y.blk → x = y
  | [], _, _, _, h, _, _ => by simp at h
  | a :: r, hs, x, y, hx, hy, e => by
    have hs' : (a.blk :: r.map Sx.blk).Nodup := hs
    obtain ⟨h1, h2⟩ := List.nodup_cons.1 hs'
    rcases List.mem_cons.1 hx with ex | hx2
    · rcases List.mem_cons.1 hy with ey | hy2
      · rw [ex, ey]
      · exact absurd (List.mem_map.2 ⟨y, hy2, by rw [← e, ex]⟩) h1
    · rcases List.mem_cons.1 hy with ey | hy2
      · exact absurd (List.mem_map.2 ⟨x, hx2, by rw [e, ey]⟩) h1
      · exact blk_inj h2 hx2 hy2 e
theorem CkM.carry (h : CkM w B c L) (hb : ∀ k ∈ c.foot, w'.heap[k]? = w.heap[k]?) : CkM w' B c L where
  hdr := by unfold Vw; rw [hb _ (foot_c c)]; exact h.hdr
  map := h.map.blk (hb _ (foot_m c))
  sec := fun x hx => by unfold Vw; rw [hb _ (foot_x hx)]; exact h.sec x hx
  own := own_blk h.own fun k hk => hb k (foot_l hk)
  blk := h.blk
  over := h.over
theorem CkM.on {B' : Nat} (h : CkM w B c L) (hb : Below B' w w') (hB : w.heap.size ≤ B') : CkM w' B c L := h.carry fun k hk => hb.block k (Nat.lt_of_lt_of_le (h.lt k hk) hB)
theorem CkM.drew (h : CkM w B c L) {m : Nat} : CkM (w.drewN m) B c L := h.carry fun _ _ => rfl
theorem CkM.drew1 (h : CkM w B c L) : CkM w.drew B c L := h.carry fun _ _ => rfl
theorem CkM.turnS {S : Nat → Prop} (h : CkM w B c L) (hT : TurnS S w w') (hS : ∀ k ∈ c.foot, ¬ S k) : CkM w' B c L := h.carry fun k hk => hT.block k (h.lt k hk) (hS k hk)

/-! ### One sector is turned -/
theorem put_mem {x y : Sx} {H : List Sx} (h : y ∈ putS x H) : (y = x) ∨ (y ∈ H ∧ y.used ≠ x.used) := by
  obtain ⟨z, hz, e⟩ := List.mem_map.1 h
  by_cases hu : z.used = x.used
  · rw [if_pos hu] at e; exact .inl e.symm
  · rw [if_neg hu] at e; subst e; exact .inr ⟨hz, hu⟩
theorem put_self {x z : Sx} {H : List Sx} (h : z ∈ H) (hu : z.used = x.used) : x ∈ putS x H := List.mem_map.2 ⟨z, h, by rw [if_pos hu]⟩
theorem put_map {α : Type} (f : Sx → α) {x z : Sx} {H : List Sx} (hs : Srt H) (hz : z ∈ H) (hu : z.used = x.used) (hf : f x = f z) : (putS x H).map f = H.map f := by
  unfold putS
  rw [List.map_map]
  refine List.map_congr_left fun y hy => ?_
  show f (if y.used = x.used then x else y) = f y
  by_cases e : y.used = x.used
  · rw [if_pos e, hf, hs.uniq hy hz (by omega)]
  · rw [if_neg e]
theorem put_fr {x : Sx} : ∀ (H : List Sx), frx x (putS x H) = frx x H
  | [] => rfl
  | a :: r => by
    have ih := put_fr (x := x) r
    unfold frx putS at ih ⊢
    rw [List.map_cons, List.filter_cons, List.filter_cons, ih]
    by_cases e : a.used = x.used
    · rw [if_pos e, if_neg (by simp), if_neg (by simp [e])]
    · rw [if_neg e]
theorem frx_used {x z : Sx} (h : x.used = z.used) (H : List Sx) : frx x H = frx z H := by
  unfold frx; rw [h]
theorem get_blk : ∀ {H H' : List Sx}, (H'.map fun x => (x.pos, x.blk)) = (H.map fun x => (x.pos, x.blk)) → ∀ a : Int, (get H' a).map (fun x => pv x.blk) = (get H a).map fun x => pv x.blk
  | [], [], _, _ => rfl
  | [], _ :: _, h, _ => by simp at h
  | _ :: _, [], h, _ => by simp at h
  | x :: H, y :: H', h, a => by
    simp only [List.map_cons, List.cons.injEq, Prod.mk.injEq] at h
    have ih := get_blk h.2 a
    unfold get at ih ⊢
    rw [List.find?_cons, List.find?_cons, h.1.1]
    split
    · simp [h.1.2]
    · exact ih
theorem MapIs.congr {M : Nat} {H H' : List Sx} (h : MapIs w M H) (e : (H'.map fun x => (x.pos, x.blk)) = (H.map fun x => (x.pos, x.blk))) : MapIs w M H' := by
  obtain ⟨l, h1, h2, h3⟩ := h
  refine ⟨l, h1, ?_, fun a => by rw [h3, get_blk e]⟩
  have := congrArg List.length e
  rw [List.length_map, List.length_map] at this
  omega
def Ck.put (c : Ck) (x : Sx) : Ck := { c with H := putS x c.H }
theorem put_foot {c : Ck} {x z : Sx} (hs : Srt c.H) (hz : z ∈ c.H) (hu : z.used = x.used) (hb : x.blk = z.blk) : (c.put x).foot = c.foot := by
  unfold Ck.foot Ck.put
  rw [put_map Sx.blk hs hz hu hb]
/-- a sector's cells are others now -/
theorem CkM.putX (h : CkM w B c L) (hs : Srt c.H) {x z : Sx} (hz : z ∈ c.H) (hu : z.used = x.used) (hb : x.blk = z.blk) (hp : x.pos = z.pos) (hw : ∀ k, k ≠ z.blk → w'.heap[k]? = w.heap[k]?) (hx : Vw w' 86 z.blk x.cells) : CkM w' B (c.put x) L where
  hdr := by unfold Vw; rw [show (c.put x).C = c.C from rfl, hw _ (Ne.symm (h.cx hz))]; exact h.hdr
  map := (h.map.blk (hw _ (Ne.symm (h.mx hz)))).congr (put_map (fun x => (x.pos, x.blk)) hs hz hu (by rw [hb, hp]))
  sec := fun y hy => by
    rcases put_mem hy with e | ⟨hy, hne⟩
    · rw [e, hb]; exact hx
    · unfold Vw
      rw [hw]
      · exact h.sec y hy
      · intro e
        exact hne (by rw [blk_inj h.blk hy hz e, hu])
  own := own_blk h.own fun k hk => hw k (h.lx hk hz)
  blk := by
    show ((putS x c.H).map Sx.blk).Nodup
    rw [put_map Sx.blk hs hz hu hb]; exact h.blk
  over := by rw [put_foot hs hz hu hb]; exact h.over
theorem put_srt {x : Sx} {H : List Sx} (hs : Srt H) : Srt (putS x H) := by
  unfold Srt putS
  rw [List.pairwise_map]
  refine hs.imp fun {a b} hab => ?_
  by_cases ha : a.used = x.used
  · rw [if_pos ha]
    by_cases hb : b.used = x.used
    · omega
    · rw [if_neg hb]; omega
  · rw [if_neg ha]
    by_cases hb : b.used = x.used
    · rw [if_pos hb]; omega
    · rw [if_neg hb]; exact hab
/-- what holds of it, but for its list -/
theorem CkOk.put (h : CkOk c L) {x z : Sx} (hz : z ∈ c.H) (hu : z.used = x.used) (hp : x.pos = z.pos) (hl : x.b.length = 128) {L' : List Sx} (hL : L'.Sublist (putS x c.H)) : CkOk (c.put x) L' where
  srt := put_srt h.srt
  top := fun y hy => by
    rcases put_mem hy with e | ⟨hy, _⟩
    · rw [e, ← hu]; exact h.top z hz
    · exact h.top y hy
  pos := by
    show ((putS x c.H).map Sx.pos).Nodup
    rw [put_map Sx.pos h.srt hz hu hp]; exact h.pos
  low := fun y hy => by
    rcases put_mem hy with e | ⟨hy, _⟩
    · rw [e, hp]; exact h.low z hz
    · exact h.low y hy
  len := fun y hy => by
    rcases put_mem hy with e | ⟨hy, _⟩
    · rw [e]; exact hl
    · exact h.len y hy
  sub := hL
theorem frx_sub (x : Sx) (H : List Sx) : (frx x H).Sublist H := List.filter_sublist
theorem fr_sub (H : List Sx) : (fr H).Sublist H := List.filter_sublist
end
end Go.Proofs.Ytnfaeejeipbciaa
end

section
set_option linter.unusedVariables false
set_option linter.unusedSimpArgs false
namespace Go.Proofs.Ytnfaeejeipbciaa
open Go.RowKit BigFrame
set_option maxRecDepth 100000

section
variable {w : World} {B : Nat} {c : Ck} {L : List Sx}
theorem find_nil (a : Int) (w : World) : Calls Try.prog 50 #[.pointer none, .int .i64 a] w fun e w' => e = .returned (.tuple #[.pointer none, .int .i64 1]) ∧ w = w' := by
  go_enter Try.func50, Try.ntmps50
  go_wp2_with fail
  go_ret2
  exact ⟨rfl, rfl⟩
/-- what is told of a place -/
def found (o : Option Sx) : Value := match o with
  | some x => .tuple #[pv x.blk, .int .i64 0]
  | none => .tuple #[.pointer none, .int .i64 5]
def I64 (a : Int) : Prop := -9223372036854775808 ≤ a ∧ a ≤ 9223372036854775807
theorem MapIs.look {M : Nat} {H : List Sx} (h : MapIs w M H) {a : Int} (ha : I64 a) :
    (Instr.lookup 70 (.map (some M)) (.int .i64 a) false).run Try.prog w = .ok (((get H a).map fun x => pv x.blk).getD (.pointer none)) w := by
  obtain ⟨l, h1, _, h3⟩ := h
  have := h1.look law_int Try.underlying70 (z := .pointer none) rfl (key_int ha.1 ha.2)
  rwa [h3] at this
theorem find_c (h : CkM w B c L) (a : Int) (ha : I64 a) : Calls Try.prog 50 #[pv c.C, .int .i64 a] w fun e w' => e = .returned (found (get c.H a)) ∧ w = w' := by
  have c3 := h.hdr.cell (k := 3) rfl
  have hl := h.map.look ha
  unfold pv
  cases hg : get c.H a with
  | none =>
    rw [hg] at hl
    simp only [Option.map_none, Option.getD_none] at hl
    clear h hg
    go_enter Try.func50, Try.ntmps50
    go_wp2_with fail
    go_ret2
    exact ⟨rfl, rfl⟩
  | some x =>
    rw [hg] at hl
    simp only [Option.map_some, Option.getD_some, pv] at hl
    clear h hg
    go_enter Try.func50, Try.ntmps50
    go_wp2_with fail
    go_ret2
    exact ⟨rfl, rfl⟩

/-! ### The newest -/
def endS (x : Sx) (H : List Sx) : List Sx := but x H ++ [x]
theorem but_used {x z : Sx} (h : x.used = z.used) (H : List Sx) : but x H = but z H := by
  unfold but; rw [h]
theorem perm_end {z : Sx} : ∀ {H : List Sx}, Srt H → z ∈ H → (but z H ++ [z]).Perm H
  | [], _, h => by simp at h
  | a :: r, hs, hz => by
    obtain ⟨h1, h2⟩ := List.pairwise_cons.1 hs
    by_cases e : a.used = z.used
    · have ea : a = z := Srt.uniq hs List.mem_cons_self hz e
      subst ea
      have e1 : but a (a :: r) = r := by
        unfold but
        rw [List.filter_cons, if_neg (by simp), List.filter_eq_self.2]
        intro y hy
        have := h1 y hy
        simp; omega
      rw [e1]
      exact List.perm_append_singleton a r
    · have hz' : z ∈ r := by
        rcases List.mem_cons.1 hz with h | h
        · exact absurd (congrArg Sx.used h.symm) e
        · exact h
      have e1 : but z (a :: r) = a :: but z r := by
        unfold but
        rw [List.filter_cons, if_pos (by simp [e])]
      rw [e1]
      exact (perm_end h2 hz').cons a
theorem get_perm {H H' : List Sx} (hA : Apart H) (hp : H'.Perm H) (a : Int) : get H' a = get H a := by
  have hA' : Apart H' := (hp.map Sx.pos).symm.nodup hA
  cases e : get H a with
  | none =>
    unfold get
    rw [List.find?_eq_none]
    intro x hx
    have := get_none e x (hp.mem_iff.1 hx)
    simpa using this
  | some x =>
    obtain ⟨h1, rfl⟩ := get_some e
    exact get_at hA' (hp.mem_iff.2 h1)
end
end Go.Proofs.Ytnfaeejeipbciaa
end

section
set_option linter.unusedVariables false
set_option linter.unusedSimpArgs false
namespace Go.Proofs.Ytnfaeejeipbciaa
open Go.RowKit BigFrame

def ptr (g : Nat) : Value := .pointer (some ⟨g, 0, none⟩)
theorem powered_any (w : World) (B : Nat) (G : Nat) (A : Lies) (d : Dk) (h : IsDk w B G A d) :
    Calls Try.prog 68 #[.pointer (some ⟨G, 0, none⟩)] w fun e w' => e = .returned (.int .i64 (if d.on then 0 else 4)) ∧ w = w' := by
  have c0 := h.cell 0
  obtain ⟨on, hon⟩ : ∃ on, d.on = on := ⟨_, rfl⟩
  simp only [hcells, hon, List.getElem?_toArray, List.getElem?_cons_zero] at c0
  rw [hon]
  clear h hon
  cases on
  · go_enter Try.func68, Try.ntmps68
    go_wp2_with fail
    go_ret
    exact ⟨rfl, rfl⟩
  · go_enter Try.func68, Try.ntmps68
    go_wp2_with fail
    go_ret
    exact ⟨rfl, rfl⟩
theorem sectors_any (w : World) (B : Nat) (G : Nat) (A : Lies) (d : Dk) (h : IsDk w B G A d) :
    Calls Try.prog 51 #[.pointer (some ⟨G, 0, none⟩)] w fun e w' => e = .returned (.int .i64 ((d.n : Nat) : Int)) ∧ w = w' := by
  have c0 := h.cell 1
  simp only [hcells, List.getElem?_toArray, List.getElem?_cons_zero, List.getElem?_cons_succ] at c0
  go_enter Try.func51, Try.ntmps51
  go_wp2_with fail
  go_ret
  exact ⟨rfl, rfl⟩
/-- what a call for a sector finds wrong -/
def reachN (d : Dk) (at' : Int) : Int := if d.on then (if 0 ≤ at' ∧ at' < (d.n : Int) then 0 else 2) else 4
theorem reach_any (at' : Int) (w : World) (B : Nat) (G : Nat) (A : Lies) (d : Dk) (h : IsDk w B G A d) :
    Calls Try.prog 58 #[.pointer (some ⟨G, 0, none⟩), .int .i64 at'] w fun e w' => e = .returned (.int .i64 (reachN d at')) ∧ w = w' := by
  have h' := Lib.hid h
  have c0 := h.cell 1
  have hn := h.fine.n
  obtain ⟨n, hn'⟩ : ∃ n, d.n = n := ⟨_, rfl⟩
  obtain ⟨on, hon⟩ : ∃ on, d.on = on := ⟨_, rfl⟩
  simp only [hcells, hn', List.getElem?_toArray, List.getElem?_cons_zero, List.getElem?_cons_succ] at c0
  unfold reachN
  rw [hn'] at hn
  rw [hn', hon]
  have hon' := Lib.hid hon
  clear h hon hn'
  cases on
  · go_enter Try.func58, Try.ntmps58
    go_wp2_with (go_at_call 68; refine (powered_any _ B G A d h'.out).mono ?_; rw [hon'.out]; rintro e w1 ⟨rfl, rfl⟩)
    go_ret
    exact ⟨rfl, rfl⟩
  · by_cases h1 : at' < 0
    · have hf := Lib.hid (show (if 0 ≤ at' ∧ at' < (n : Int) then (0 : Int) else 2) = 2 by rw [if_neg (by omega)])
      rw [hf.out]
      go_enter Try.func58, Try.ntmps58
      go_wp2_with (go_at_call 68; refine (powered_any _ B G A d h'.out).mono ?_; rw [hon'.out]; rintro e w1 ⟨rfl, rfl⟩)
      go_ret
      exact ⟨rfl, rfl⟩
    · by_cases h2 : at' < (n : Int)
      · have hf := Lib.hid (show (if 0 ≤ at' ∧ at' < (n : Int) then (0 : Int) else 2) = 0 by rw [if_pos (by omega)])
        rw [hf.out]
        go_enter Try.func58, Try.ntmps58
        go_wp2_with (go_at_call 68; refine (powered_any _ B G A d h'.out).mono ?_; rw [hon'.out]; rintro e w1 ⟨rfl, rfl⟩)
        go_ret
        exact ⟨rfl, rfl⟩
      · have hf := Lib.hid (show (if 0 ≤ at' ∧ at' < (n : Int) then (0 : Int) else 2) = 2 by rw [if_neg (by omega)])
        rw [hf.out]
        go_enter Try.func58, Try.ntmps58
        go_wp2_with (go_at_call 68; refine (powered_any _ B G A d h'.out).mono ?_; rw [hon'.out]; rintro e w1 ⟨rfl, rfl⟩)
        go_ret
        exact ⟨rfl, rfl⟩
end Go.Proofs.Ytnfaeejeipbciaa
end
