/-
  A cache in memory: where it lies, what stays of it when other memory turns.
  A cache: one that is held is found; one more is held; one becomes the newest.
  A cache: one more is held; one becomes the newest.
  A cache: a sector becomes the newest.
-/
import Derived.Test.YtedbfehoeflmgaaB5
import Derived.Test.YtedbfehoeflmgaaB3
import Derived.StillTailTactics

section
set_option linter.unusedVariables false
set_option linter.unusedSimpArgs false
namespace Go.Proofs.Ytedbfehoeflmgaa
open Go.RowKit BigFrame

def pv (b : Nat) : Value := .pointer (some ⟨b, 0, none⟩)
def Sx.cells (x : Sx) : List Value := .int .i64 ((x.pos : Nat) : Int) :: (bv x.b ++ [.int .i64 ((x.used : Nat) : Int), .bool x.dirty, .bool x.pin])
theorem Sx.c0 (x : Sx) : x.cells[0]? = some (.int .i64 ((x.pos : Nat) : Int)) := rfl
theorem Sx.c129 {x : Sx} (h : x.b.length = 128) : x.cells[129]? = some (.int .i64 ((x.used : Nat) : Int)) := by
  unfold Sx.cells
  rw [List.getElem?_cons_succ, List.getElem?_append_right (by rw [bv_length, h]; exact Nat.le_refl _), bv_length, h]; rfl
theorem Sx.c130 {x : Sx} (h : x.b.length = 128) : x.cells[130]? = some (.bool x.dirty) := by
  unfold Sx.cells
  rw [List.getElem?_cons_succ, List.getElem?_append_right (by rw [bv_length, h]; omega), bv_length, h]; rfl
theorem Sx.c131 {x : Sx} (h : x.b.length = 128) : x.cells[131]? = some (.bool x.pin) := by
  unfold Sx.cells
  rw [List.getElem?_cons_succ, List.getElem?_append_right (by rw [bv_length, h]; omega), bv_length, h]; rfl
theorem Sx.csize {x : Sx} (h : x.b.length = 128) : x.cells.length = 132 := by simp [Sx.cells, bv_length, h]
theorem Sx.range (x : Sx) : (x.cells.drop 1).take x.b.length = bv x.b := by
  unfold Sx.cells
  rw [List.drop_succ_cons, List.drop_zero, List.take_append_of_le_length (by rw [bv_length]; exact Nat.le_refl _), List.take_of_length_le (by rw [bv_length]; exact Nat.le_refl _)]
theorem Sx.set129 {x : Sx} (h : x.b.length = 128) (u : Nat) : x.cells.set 129 (.int .i64 ((u : Nat) : Int)) = ({ x with used := u } : Sx).cells := by
  unfold Sx.cells
  rw [List.set_cons_succ, List.set_append_right _ _ (by rw [bv_length, h]; exact Nat.le_refl _), bv_length, h]; rfl
theorem Sx.set130 {x : Sx} (h : x.b.length = 128) (u : Bool) : x.cells.set 130 (.bool u) = ({ x with dirty := u } : Sx).cells := by
  unfold Sx.cells
  rw [List.set_cons_succ, List.set_append_right _ _ (by rw [bv_length, h]; omega), bv_length, h]; rfl
theorem Sx.set131 {x : Sx} (h : x.b.length = 128) (u : Bool) : x.cells.set 131 (.bool u) = ({ x with pin := u } : Sx).cells := by
  unfold Sx.cells
  rw [List.set_cons_succ, List.set_append_right _ _ (by rw [bv_length, h]; omega), bv_length, h]; rfl
theorem Sx.setb {x : Sx} (h : x.b.length = 128) {l : List Nat} (hl : l.length = 128) : splice x.cells 1 (bv l) = ({ x with b := l } : Sx).cells := by
  have h1 : (bv x.b).length = 128 := by rw [bv_length, h]
  have h2 : (bv l).length = 128 := by rw [bv_length, hl]
  unfold splice Sx.cells
  rw [List.take_succ_cons, List.take_zero, h2, show 1 + 128 = 128 + 1 from rfl, List.drop_succ_cons, List.drop_append_of_le_length (by rw [h1]; exact Nat.le_refl _), List.drop_of_length_le (by rw [h1]; exact Nat.le_refl _)]
  rfl

/-- a cache: where it lies, its disk, how many it may hold, how many there were, what it holds -/
structure Ck where
  C : Nat
  M : Nat
  G : Nat
  lv : Value
  most : Nat
  uses : Nat
  H : List Sx
def Ck.foot (c : Ck) : List Nat := c.C :: c.M :: (c.lv.ownBlock.toList ++ c.H.map Sx.blk)
def Ck.cells (c : Ck) : List Value := [pv c.G, .int .i64 ((c.most : Nat) : Int), .int .i64 ((c.uses : Nat) : Int), .map (some c.M), c.lv]
def pvs (L : List Sx) : List Value := L.map fun x => pv x.blk
theorem pvs_len (L : List Sx) : (pvs L).length = L.length := by simp [pvs]
theorem pvs_get {L : List Sx} {k : Nat} {x : Sx} (h : L[k]? = some x) : (pvs L)[k]? = some (pv x.blk) := by simp [pvs, h]
theorem pvs_one (L : List Sx) : ∀ v ∈ pvs L, v.oneCell' = true := by
  intro v hv
  obtain ⟨k, _, rfl⟩ := List.mem_map.1 hv
  rfl
/-- the map of what is held -/
def MapIs (w : World) (M : Nat) (H : List Sx) : Prop := ∃ l, MapAt 3 w M l ∧ l.length = H.length ∧ ∀ a : Int, fndL l (.int .i64 a) = (get H a).map fun x => pv x.blk
/-- a cache in memory; L: those that its list has -/
structure CkM (w : World) (B : Nat) (c : Ck) (L : List Sx) : Prop where
  hdr : Vw w 73 c.C c.cells
  map : MapIs w c.M c.H
  sec : ∀ x ∈ c.H, Vw w 86 x.blk x.cells
  own : w.ownsRow B 81 1 c.lv L.length (pvs L)
  blk : (c.H.map Sx.blk).Nodup
  over : ∀ k ∈ c.foot, B ≤ k
/-- what holds of what it holds -/
structure CkOk (c : Ck) (L : List Sx) : Prop where
  srt : Srt c.H
  top : ∀ x ∈ c.H, x.used ≤ c.uses
  pos : Apart c.H
  low : ∀ x ∈ c.H, x.pos < 2048
  len : ∀ x ∈ c.H, x.b.length = 128
  sub : L.Sublist c.H
theorem CkOk.few {c : Ck} {L : List Sx} (h : CkOk c L) : c.H.length ≤ 2048 := by
  have := nodup_below 2048 h.pos fun x hx => by
    obtain ⟨y, hy, rfl⟩ := List.mem_map.1 hx
    exact h.low y hy
  simpa using this
theorem CkOk.fewL {c : Ck} {L : List Sx} (h : CkOk c L) : L.length ≤ 2048 := Nat.le_trans h.sub.length_le h.few

theorem MapIs.blk {w w' : World} {M : Nat} {H : List Sx} (h : MapIs w M H) (e : w'.heap[M]? = w.heap[M]?) : MapIs w' M H := by
  obtain ⟨l, h1, h2, h3⟩ := h
  exact ⟨l, h1.blk e, h2, h3⟩
theorem MapIs.obj {w : World} {M : Nat} {H : List Sx} (h : MapIs w M H) : M < w.heap.size ∧ ∃ es c, w.heap[M]? = some (.map es c) := by
  obtain ⟨l, h1, _⟩ := h
  refine ⟨h1.lt, ?_⟩
  obtain ⟨es, c, hb, _⟩ := h1
  exact ⟨es, c, hb⟩
theorem own_blk {w w' : World} {B : Nat} {t : TypeId} {v : Value} {n : Nat} {X : List Value} (h : w.ownsRow B t 1 v n X) (e : ∀ k, v.ownBlock = some k → w'.heap[k]? = w.heap[k]?) : w'.ownsRow B t 1 v n X := ownsRow_block h e
theorem own_obj {w : World} {B : Nat} {t : TypeId} {v : Value} {n : Nat} {X : List Value} (h : w.ownsRow B t 1 v n X) : ∀ k, v.ownBlock = some k → k < w.heap.size ∧ ∃ c, w.heap[k]? = some (.cells c t (0, 0)) := fun k hk => by
  rcases h.2 with ⟨rfl, _⟩ | ⟨g, cap, cur, rfl, hb, hg, r⟩
  · cases hk
  · cases hk
    exact ⟨(Array.getElem?_eq_some_iff.1 hg).1, cur, hg⟩
theorem own_form1 {w : World} {B : Nat} {v : Value} {L : List Sx} (h : w.ownsRow B 81 1 v L.length (pvs L)) :
    (v = .slice none 0 0 ∧ L = []) ∨ ∃ g cap cur, v = .slice (some ⟨g, 0, none⟩) L.length cap ∧ Vw w 81 g cur ∧ cur.length = cap ∧ L.length ≤ cap ∧ cap ≤ maxLen ∧ B ≤ g ∧ ∀ (k : Nat) (x : Sx), L[k]? = some x → cur[k]? = some (pv x.blk) := by
  rcases h.2 with ⟨rfl, h0⟩ | ⟨g, cap, cur, rfl, hb, hg, hn, hm, hs, ht⟩
  · exact .inl ⟨rfl, List.eq_nil_of_length_eq_zero h0⟩
  · refine .inr ⟨g, cap, cur.toList, rfl, by unfold Vw; rw [hg], by rw [Array.length_toList, hs]; omega, hn, hm, hb, fun k x hk => ?_⟩
    have := pvs_get hk
    rw [← ht, List.getElem?_take] at this
    split at this
    · exact this
    · cases this
theorem own_of_cur {w : World} {B g cap : Nat} {L : List Sx} {cur : List Value} (hV : Vw w 81 g cur) (hc : cur.length = cap) (hn : L.length ≤ cap) (hm : cap ≤ maxLen) (hB : B ≤ g) (hx : ∀ (k : Nat) (x : Sx), L[k]? = some x → cur[k]? = some (pv x.blk)) :
    w.ownsRow B 81 1 (.slice (some ⟨g, 0, none⟩) L.length cap) L.length (pvs L) := by
  refine ⟨by rw [pvs_len, Nat.mul_one], .inr ⟨g, cap, cur.toArray, rfl, hB, hV, hn, hm, by simp [hc], ?_⟩⟩
  apply List.ext_getElem?
  intro k
  show (cur.take (L.length * 1))[k]? = _
  rw [List.getElem?_take]
  by_cases h : k < L.length
  · rw [if_pos (by omega), hx k _ (List.getElem?_eq_getElem h), pvs_get (List.getElem?_eq_getElem h)]
  · rw [if_neg (by omega), List.getElem?_eq_none (by rw [pvs_len]; omega)]
/-! ### What lies apart -/
section
variable {w w' : World} {B : Nat} {c : Ck} {L : List Sx}
theorem foot_c (c : Ck) : c.C ∈ c.foot := by simp [Ck.foot]
theorem foot_m (c : Ck) : c.M ∈ c.foot := by simp [Ck.foot]
theorem foot_l {k : Nat} (h : c.lv.ownBlock = some k) : k ∈ c.foot := by simp [Ck.foot, h]
theorem foot_x {x : Sx} (h : x ∈ c.H) : x.blk ∈ c.foot := by
  simp only [Ck.foot, List.mem_cons, List.mem_append]
  exact .inr (.inr (.inr (List.mem_map.2 ⟨x, h, rfl⟩)))
theorem foot_cases {k : Nat} (h : k ∈ c.foot) : k = c.C ∨ k = c.M ∨ c.lv.ownBlock = some k ∨ ∃ x ∈ c.H, x.blk = k := by
  simp only [Ck.foot, List.mem_cons, List.mem_append, List.mem_map] at h
  rcases h with h | h | h | h
  · exact .inl h
  · exact .inr (.inl h)
  · exact .inr (.inr (.inl (by simpa using h)))
  · exact .inr (.inr (.inr h))
theorem CkM.lt (h : CkM w B c L) : ∀ k ∈ c.foot, k < w.heap.size := fun k hk => by
  rcases foot_cases hk with rfl | rfl | hk | ⟨x, hx, rfl⟩
  · exact h.hdr.lt
  · exact h.map.obj.1
  · exact (own_obj h.own k hk).1
  · exact (h.sec x hx).lt
theorem vw_type {t t' : TypeId} {g : Nat} {l l' : List Value} (h : Vw w t g l) (h' : Vw w t' g l') : t = t' := by
  unfold Vw at h h'
  rw [h] at h'
  cases h'; rfl
theorem vw_nomap {t : TypeId} {g : Nat} {l : List Value} (h : Vw w t g l) {H : List Sx} : ¬ MapIs w g H := fun hm => by
  obtain ⟨_, es, cc, e⟩ := hm.obj
  unfold Vw at h
  rw [h] at e
  cases e
theorem own_type {t t' : TypeId} {g n : Nat} {v : Value} {X l : List Value} (h : w.ownsRow B t 1 v n X) (hg : v.ownBlock = some g) (h' : Vw w t' g l) : t = t' := by
  obtain ⟨_, cc, e⟩ := own_obj h g hg
  unfold Vw at h'
  rw [e] at h'
  cases h'; rfl
theorem own_nomap {t : TypeId} {g n : Nat} {v : Value} {X : List Value} (h : w.ownsRow B t 1 v n X) (hg : v.ownBlock = some g) {H : List Sx} : ¬ MapIs w g H := fun hm => by
  obtain ⟨_, cc, e⟩ := own_obj h g hg
  obtain ⟨_, es, c2, e2⟩ := hm.obj
  rw [e] at e2
  cases e2
theorem CkM.cm (h : CkM w B c L) : c.C ≠ c.M := fun e => vw_nomap h.hdr (e ▸ h.map)
theorem CkM.cx (h : CkM w B c L) {x : Sx} (hx : x ∈ c.H) : x.blk ≠ c.C := fun e => absurd (vw_type (h.sec x hx) (e ▸ h.hdr)) (by decide)
theorem CkM.mx (h : CkM w B c L) {x : Sx} (hx : x ∈ c.H) : x.blk ≠ c.M := fun e => vw_nomap (h.sec x hx) (e ▸ h.map)
theorem CkM.lc (h : CkM w B c L) {k : Nat} (hk : c.lv.ownBlock = some k) : k ≠ c.C := fun e => absurd (own_type h.own hk (e ▸ h.hdr)) (by decide)
theorem CkM.lm (h : CkM w B c L) {k : Nat} (hk : c.lv.ownBlock = some k) : k ≠ c.M := fun e => own_nomap h.own hk (e ▸ h.map)
theorem CkM.lx (h : CkM w B c L) {k : Nat} (hk : c.lv.ownBlock = some k) {x : Sx} (hx : x ∈ c.H) : k ≠ x.blk := fun e => absurd (own_type h.own hk (e ▸ h.sec x hx)) (by decide)
theorem blk_inj : ∀ {H : List Sx}, (H.map Sx.blk).Nodup → ∀ {x y : Sx}, x ∈ H → y ∈ H → x.blk = y.blk → x = y
  | [], _, _, _, h, _, _ => by simp at h
  | a :: r, hs, x, y, hx, hy, e => by
    have hs' : (a.blk :: r.map Sx.blk).Nodup := hs
    obtain ⟨h1, h2⟩ := List.nodup_cons.1 hs'
    rcases List.mem_cons.1 hx with ex | hx2
    · rcases List.mem_cons.1 hy with ey | hy2
      · rw [ex, ey]
      · exact absurd (List.mem_map.2 ⟨y, hy2, by rw [← e, ex]⟩) h1
    · rcases List.mem_cons.1 hy with ey | hy2
      · exact absurd (List.mem_map.2 ⟨x, hx2, by rw [e, ey]⟩) h1
      · exact blk_inj h2 hx2 hy2 e
theorem CkM.carry (h : CkM w B c L) (hb : ∀ k ∈ c.foot, w'.heap[k]? = w.heap[k]?) : CkM w' B c L where
  hdr := by unfold Vw; rw [hb _ (foot_c c)]; exact h.hdr
  map := h.map.blk (hb _ (foot_m c))
  sec := fun x hx => by unfold Vw; rw [hb _ (foot_x hx)]; exact h.sec x hx
  own := own_blk h.own fun k hk => hb k (foot_l hk)
  blk := h.blk
  over := h.over
theorem CkM.on {B' : Nat} (h : CkM w B c L) (hb : Below B' w w') (hB : w.heap.size ≤ B') : CkM w' B c L := h.carry fun k hk => hb.block k (Nat.lt_of_lt_of_le (h.lt k hk) hB)
theorem CkM.drew (h : CkM w B c L) {m : Nat} : CkM (w.drewN m) B c L := h.carry fun _ _ => rfl
theorem CkM.drew1 (h : CkM w B c L) : CkM w.drew B c L := h.carry fun _ _ => rfl
theorem CkM.turnS {S : Nat → Prop} (h : CkM w B c L) (hT : TurnS S w w') (hS : ∀ k ∈ c.foot, ¬ S k) : CkM w' B c L := h.carry fun k hk => hT.block k (h.lt k hk) (hS k hk)

/-! ### One sector is turned -/
theorem put_mem {x y : Sx} {H : List Sx} (h : y ∈ putS x H) : (y = x) ∨ (y ∈ H ∧ y.used ≠ x.used) := by
  obtain ⟨z, hz, e⟩ := List.mem_map.1 h
  by_cases hu : z.used = x.used
  · rw [if_pos hu] at e; exact .inl e.symm
  · rw [if_neg hu] at e; subst e; exact .inr ⟨hz, hu⟩
theorem put_self {x z : Sx} {H : List Sx} (h : z ∈ H) (hu : z.used = x.used) : x ∈ putS x H := List.mem_map.2 ⟨z, h, by rw [if_pos hu]⟩
theorem put_map {α : Type} (f : Sx → α) {x z : Sx} {H : List Sx} (hs : Srt H) (hz : z ∈ H) (hu : z.used = x.used) (hf : f x = f z) : (putS x H).map f = H.map f := by
  unfold putS
  rw [List.map_map]
  refine List.map_congr_left fun y hy => ?_
  show f (if y.used = x.used then x else y) = f y
  by_cases e : y.used = x.used
  · rw [if_pos e, hf, hs.uniq hy hz (by omega)]
  · rw [if_neg e]
theorem put_fr {x : Sx} : ∀ (H : List Sx), frx x (putS x H) = frx x H
  | [] => rfl
  | a :: r => by
    have ih := put_fr (x := x) r
    unfold frx putS at ih ⊢
    rw [List.map_cons, List.filter_cons, List.filter_cons, ih]
    by_cases e : a.used = x.used
    · rw [if_pos e, if_neg (by simp), if_neg (by simp [e])]
    · rw [if_neg e]
theorem frx_used {x z : Sx} (h : x.used = z.used) (H : List Sx) : frx x H = frx z H := by
  unfold frx; rw [h]
theorem get_blk : ∀ {H H' : List Sx}, (H'.map fun x => (x.pos, x.blk)) = (H.map fun x => (x.pos, x.blk)) → ∀ a : Int, (get H' a).map (fun x => pv x.blk) = (get H a).map fun x => pv x.blk
  | [], [], _, _ => rfl
  | [], _ :: _, h, _ => by simp at h
  | _ :: _, [], h, _ => by simp at h
  | x :: H, y :: H', h, a => by
    simp only [List.map_cons, List.cons.injEq, Prod.mk.injEq] at h
    have ih := get_blk h.2 a
    unfold get at ih ⊢
    rw [List.find?_cons, List.find?_cons, h.1.1]
    split
    · simp [h.1.2]
    · exact ih
theorem MapIs.congr {M : Nat} {H H' : List Sx} (h : MapIs w M H) (e : (H'.map fun x => (x.pos, x.blk)) = (H.map fun x => (x.pos, x.blk))) : MapIs w M H' := by
  obtain ⟨l, h1, h2, h3⟩ := h
  refine ⟨l, h1, ?_, fun a => by rw [h3, get_blk e]⟩
  have := congrArg List.length e
  rw [List.length_map, List.length_map] at this
  omega
def Ck.put (c : Ck) (x : Sx) : Ck := { c with H := putS x c.H }
theorem put_foot {c : Ck} {x z : Sx} (hs : Srt c.H) (hz : z ∈ c.H) (hu : z.used = x.used) (hb : x.blk = z.blk) : (c.put x).foot = c.foot := by
  unfold Ck.foot Ck.put
  rw [put_map Sx.blk hs hz hu hb]
/-- a sector's cells are others now -/
theorem CkM.putX (h : CkM w B c L) (hs : Srt c.H) {x z : Sx} (hz : z ∈ c.H) (hu : z.used = x.used) (hb : x.blk = z.blk) (hp : x.pos = z.pos) (hw : ∀ k, k ≠ z.blk → w'.heap[k]? = w.heap[k]?) (hx : Vw w' 86 z.blk x.cells) : CkM w' B (c.put x) L where
  hdr := by unfold Vw; rw [show (c.put x).C = c.C from rfl, hw _ (Ne.symm (h.cx hz))]; exact h.hdr
  map := (h.map.blk (hw _ (Ne.symm (h.mx hz)))).congr (put_map (fun x => (x.pos, x.blk)) hs hz hu (by rw [hb, hp]))
  sec := fun y hy => by
    rcases put_mem hy with e | ⟨hy, hne⟩
    · rw [e, hb]; exact hx
    · unfold Vw
      rw [hw]
      · exact h.sec y hy
      · intro e
        exact hne (by rw [blk_inj h.blk hy hz e, hu])
  own := own_blk h.own fun k hk => hw k (h.lx hk hz)
  blk := by
    show ((putS x c.H).map Sx.blk).Nodup
    rw [put_map Sx.blk hs hz hu hb]; exact h.blk
  over := by rw [put_foot hs hz hu hb]; exact h.over
theorem put_srt {x : Sx} {H : List Sx} (hs : Srt H) : Srt (putS x H) := by
  unfold Srt putS
  rw [List.pairwise_map]
  refine hs.imp fun {a b} hab => ?_
  by_cases ha : a.used = x.used
  · rw [if_pos ha]
    by_cases hb : b.used = x.used
    · omega
    · rw [if_neg hb]; omega
  · rw [if_neg ha]
    by_cases hb : b.used = x.used
    · rw [if_pos hb]; omega
    · rw [if_neg hb]; exact hab
/-- what holds of it, but for its list -/
theorem CkOk.put (h : CkOk c L) {x z : Sx} (hz : z ∈ c.H) (hu : z.used = x.used) (hp : x.pos = z.pos) (hl : x.b.length = 128) {L' : List Sx} (hL : L'.Sublist (putS x c.H)) : CkOk (c.put x) L' where
  srt := put_srt h.srt
  top := fun y hy => by
    rcases put_mem hy with e | ⟨hy, _⟩
    · rw [e, ← hu]; exact h.top z hz
    · exact h.top y hy
  pos := by
    show ((putS x c.H).map Sx.pos).Nodup
    rw [put_map Sx.pos h.srt hz hu hp]; exact h.pos
  low := fun y hy => by
    rcases put_mem hy with e | ⟨hy, _⟩
    · rw [e, hp]; exact h.low z hz
    · exact h.low y hy
  len := fun y hy => by
    rcases put_mem hy with e | ⟨hy, _⟩
    · rw [e]; exact hl
    · exact h.len y hy
  sub := hL
theorem frx_sub (x : Sx) (H : List Sx) : (frx x H).Sublist H := List.filter_sublist
theorem fr_sub (H : List Sx) : (fr H).Sublist H := List.filter_sublist
end
end Go.Proofs.Ytedbfehoeflmgaa
end

section
set_option linter.unusedVariables false
set_option linter.unusedSimpArgs false
namespace Go.Proofs.Ytedbfehoeflmgaa
open Go.RowKit BigFrame
set_option maxRecDepth 100000

section
variable {w : World} {B : Nat} {c : Ck} {L : List Sx}
theorem find_nil (a : Int) (w : World) : Calls Try.prog 50 #[.pointer none, .int .i64 a] w fun e w' => e = .returned (.tuple #[.pointer none, .int .i64 1]) ∧ w = w' := by
  go_enter Try.func50, Try.ntmps50
  go_wp2_with fail
  go_ret2
  exact ⟨rfl, rfl⟩
/-- what is told of a place -/
def found (o : Option Sx) : Value := match o with
  | some x => .tuple #[pv x.blk, .int .i64 0]
  | none => .tuple #[.pointer none, .int .i64 5]
def I64 (a : Int) : Prop := -9223372036854775808 ≤ a ∧ a ≤ 9223372036854775807
theorem MapIs.look {M : Nat} {H : List Sx} (h : MapIs w M H) {a : Int} (ha : I64 a) :
    (Instr.lookup 70 (.map (some M)) (.int .i64 a) false).run Try.prog w = .ok (((get H a).map fun x => pv x.blk).getD (.pointer none)) w := by
  obtain ⟨l, h1, _, h3⟩ := h
  have := h1.look law_int Try.underlying70 (z := .pointer none) rfl (key_int ha.1 ha.2)
  rwa [h3] at this
theorem find_c (h : CkM w B c L) (a : Int) (ha : I64 a) : Calls Try.prog 50 #[pv c.C, .int .i64 a] w fun e w' => e = .returned (found (get c.H a)) ∧ w = w' := by
  have c3 := h.hdr.cell (k := 3) rfl
  have hl := h.map.look ha
  unfold pv
  cases hg : get c.H a with
  | none =>
    rw [hg] at hl
    simp only [Option.map_none, Option.getD_none] at hl
    clear h hg
    go_enter Try.func50, Try.ntmps50
    go_wp2_with fail
    go_ret2
    exact ⟨rfl, rfl⟩
  | some x =>
    rw [hg] at hl
    simp only [Option.map_some, Option.getD_some, pv] at hl
    clear h hg
    go_enter Try.func50, Try.ntmps50
    go_wp2_with fail
    go_ret2
    exact ⟨rfl, rfl⟩

/-! ### The newest -/
def endS (x : Sx) (H : List Sx) : List Sx := but x H ++ [x]
theorem but_used {x z : Sx} (h : x.used = z.used) (H : List Sx) : but x H = but z H := by
  unfold but; rw [h]
theorem perm_end {z : Sx} : ∀ {H : List Sx}, Srt H → z ∈ H → (but z H ++ [z]).Perm H
  | [], _, h => by simp at h
  | a :: r, hs, hz => by
    obtain ⟨h1, h2⟩ := List.pairwise_cons.1 hs
    by_cases e : a.used = z.used
    · have ea : a = z := Srt.uniq hs List.mem_cons_self hz e
      subst ea
      have e1 : but a (a :: r) = r := by
        unfold but
        rw [List.filter_cons, if_neg (by simp), List.filter_eq_self.2]
        intro y hy
        have := h1 y hy
        simp; omega
      rw [e1]
      exact List.perm_append_singleton a r
    · have hz' : z ∈ r := by
        rcases List.mem_cons.1 hz with h | h
        · exact absurd (congrArg Sx.used h.symm) e
        · exact h
      have e1 : but z (a :: r) = a :: but z r := by
        unfold but
        rw [List.filter_cons, if_pos (by simp [e])]
      rw [e1]
      exact (perm_end h2 hz').cons a
theorem get_perm {H H' : List Sx} (hA : Apart H) (hp : H'.Perm H) (a : Int) : get H' a = get H a := by
  have hA' : Apart H' := (hp.map Sx.pos).symm.nodup hA
  cases e : get H a with
  | none =>
    unfold get
    rw [List.find?_eq_none]
    intro x hx
    have := get_none e x (hp.mem_iff.1 hx)
    simpa using this
  | some x =>
    obtain ⟨h1, rfl⟩ := get_some e
    exact get_at hA' (hp.mem_iff.2 h1)
end
end Go.Proofs.Ytedbfehoeflmgaa
end

section
set_option linter.unusedVariables false
set_option linter.unusedSimpArgs false
namespace Go.Proofs.Ytedbfehoeflmgaa
open Go.RowKit BigFrame
set_option maxRecDepth 100000

/-- a sector that was just made -/
def sx0 (k p : Nat) : Sx := ⟨k, p, zs 128, 0, false, false⟩
def bldX (ps : Array (Nat × Value)) : Sem Value := Instr.build 86 ps
theorem bldX_of (ps : Array (Nat × Value)) : Instr.build 86 ps = bldX ps := rfl
theorem run_bldX (p : Nat) (w : World) : (bldX #[(0, .int .i64 ((p : Nat) : Int))]).run Try.prog w = .ok (.agg (sx0 0 p).cells.toArray) w := by
  unfold bldX
  refine run_build w _ _ _ ?_
  kernel_rfl
attribute [local go_sem ↓] bldX_of
attribute [local go_sem] run_bldX
theorem Step.turned {w0 w w' : World} {F F' : List Nat} {m : Nat} (h : Step w0 F w F') (ht : w.mapTurned w' m) (hm : m ∈ F') : Step w0 F w' F' :=
  h.trans ⟨ht.grown.os, ht.grown.tape, ht.grown.output, ht.grown.size, fun k _ hk => mturn_blk ht (fun e => hk (e ▸ hm)), fun k hk => .inl hk⟩

section
variable {w : World} {B : Nat} {c : Ck} {L : List Sx}
def Ck.hold (c : Ck) (x : Sx) : Ck := { c with H := x :: c.H }
/-- what a call leaves that answers v -/
structure CkPost (v : Value) (B : Nat) (c : Ck) (w : World) (c' : Ck) (L' : List Sx) (w' : World) : Prop where
  mem : CkM w' B c' L'
  step : Step w c.foot w' c'.foot
theorem hold_c (h : CkM w B c L) (hO : CkOk c L) (hB : B ≤ w.heap.size) (p : Nat) (hp : p < 2048) (hn : get c.H (p : Int) = none) :
    Calls Try.prog 52 #[pv c.C, .int .i64 (p : Int)] w fun e w' => e = .returned (pv w.heap.size) ∧ CkM w' B (c.hold (sx0 w.heap.size p)) L ∧ Step w c.foot w' (c.hold (sx0 w.heap.size p)).foot := by
  have c3 := h.hdr.cell (k := 3) rfl
  have h' := Lib.hid h
  have hO' := Lib.hid hO
  have hn' := Lib.hid hn
  have h1 := Lib.hid (show CkM (w.alloc (.cells (sx0 0 p).cells.toArray 86)) B c L from h.carry fun k hk => old_alloc w _ k (h.lt k hk))
  have k3 := h1.out.hdr.cell (k := 3) rfl
  obtain ⟨l, m1, m2, m3⟩ := h1.out.map
  have m1' := Lib.hid m1
  have m2' := Lib.hid m2
  have m3' := Lib.hid m3
  have hkey := key_nat (k := p) (by omega)
  have tk : True := trivial
  unfold pv
  clear h hO hn m1 m2 m3
  go_enter Try.func52, Try.ntmps52
  go_wp2_with (at_mapUpdate; have _t := tk; clear tk; refine wpList_map_store rfl _ _ _ rfl law_int Try.underlying70 c.M l rfl m1'.out (by have := hO'.out.few; rw [m2'.out]; unfold maxLen; omega) (.int .i64 (p : Int)) (.pointer (some ⟨w.heap.size, 0, none⟩)) (.int .i64 (p : Int)) rfl rfl hkey ?_; intro w3 hm3 ht3)
  go_ret
  obtain ⟨w1, hw1⟩ : ∃ w1, w.alloc (.cells (sx0 0 p).cells.toArray 86) = w1 := ⟨_, rfl⟩
  have hnew : Vw w1 86 w.heap.size (sx0 w.heap.size p).cells := by rw [← hw1]; exact Vw.alloc w _ _
  have hsz : w1.heap.size = w.heap.size + 1 := by rw [← hw1]; exact size_alloc w _
  have hS0 : Step w c.foot w1 (c.hold (sx0 w.heap.size p)).foot := by
    rw [← hw1]
    refine ⟨rfl, rfl, rfl, by rw [size_alloc]; omega, fun k hk _ => old_alloc w _ k hk, fun k hk => ?_⟩
    rcases foot_cases hk with rfl | rfl | hk | ⟨x, hx, rfl⟩
    · exact .inl (foot_c c)
    · exact .inl (foot_m c)
    · exact .inl (foot_l hk)
    · rcases List.mem_cons.1 hx with rfl | hx
      · exact .inr (Nat.le_refl _)
      · exact .inl (foot_x hx)
  rw [hw1] at h1 ht3
  have hM := h1.out
  have hmc : c.M < w.heap.size := h'.out.lt _ (foot_m c)
  refine ⟨rfl, ⟨?_, ⟨_, hm3.out, ?_, fun a => ?_⟩, fun x hx => ?_, ?_, ?_, fun k hk => ?_⟩, hS0.turned ht3.out (foot_m _)⟩
  · exact (by unfold Vw; rw [mturn_blk ht3.out hM.cm]; exact hM.hdr : Vw w3 _ c.C c.cells)
  · have e : fndL l (.int .i64 (p : Int)) = none := by rw [m3'.out, hn'.out]; rfl
    rw [insL_length, strL_none e, m2'.out]; rfl
  · rw [fndL_put, m3'.out]
    show _ = (get (sx0 w.heap.size p :: c.H) a).map _
    unfold get
    rw [List.find?_cons]
    by_cases ea : a = (p : Int)
    · rw [if_pos ea, decide_eq_true (show ((sx0 w.heap.size p).pos : Int) = a from ea.symm)]; rfl
    · rw [if_neg ea, decide_eq_false (show ¬ ((sx0 w.heap.size p).pos : Int) = a from fun e => ea e.symm)]
  · rcases List.mem_cons.1 hx with rfl | hx
    · unfold Vw
      rw [show (sx0 w.heap.size p).blk = w.heap.size from rfl, mturn_blk ht3.out (by omega)]; exact hnew
    · unfold Vw
      rw [mturn_blk ht3.out (hM.mx hx)]; exact hM.sec x hx
  · exact own_blk hM.own fun k hk => mturn_blk ht3.out (hM.lm hk)
  · show (w.heap.size :: c.H.map Sx.blk).Nodup
    refine List.nodup_cons.2 ⟨fun hm => ?_, hM.blk⟩
    obtain ⟨x, hx, e⟩ := List.mem_map.1 hm
    have := h'.out.lt _ (foot_x hx)
    omega
  · rcases hS0.foot k hk with h | h
    · exact hM.over k h
    · omega
end
end Go.Proofs.Ytedbfehoeflmgaa
end

section
set_option linter.unusedVariables false
set_option linter.unusedSimpArgs false
namespace Go.Proofs.Ytedbfehoeflmgaa
open Go.RowKit BigFrame
set_option maxRecDepth 100000

section
variable {w : World} {B : Nat} {c : Ck} {L : List Sx}
def Sx.at (x : Sx) (u : Nat) : Sx := { x with used := u }
def Ck.newest (c : Ck) (x : Sx) : Ck := { c with uses := c.uses + 1, H := but x c.H ++ [x.at (c.uses + 1)] }
theorem mem_but {x y : Sx} {H : List Sx} : y ∈ but x H ↔ y ∈ H ∧ y.used ≠ x.used := by
  unfold but
  rw [List.mem_filter]
  simp
theorem newest_map {α : Type} (f : Sx → α) {x : Sx} {H : List Sx} (hs : Srt H) (hx : x ∈ H) (u : Nat) (hf : f (x.at u) = f x) : ((but x H ++ [x.at u]).map f).Perm (H.map f) := by
  have := (perm_end hs hx).map f
  rw [List.map_append, List.map_singleton] at this ⊢
  rw [hf]; exact this
theorem newest_foot {x : Sx} (hs : Srt c.H) (hx : x ∈ c.H) (k : Nat) : k ∈ (c.newest x).foot ↔ k ∈ c.foot := by
  have := (newest_map Sx.blk hs hx (c.uses + 1) rfl).mem_iff (a := k)
  simp only [Ck.foot, List.mem_cons, List.mem_append, Ck.newest]
  rw [this]
theorem get_end {x : Sx} {H : List Sx} (hs : Srt H) (hA : Apart H) (hx : x ∈ H) (u : Nat) (a : Int) : (get (but x H ++ [x.at u]) a).map (fun x => pv x.blk) = (get H a).map fun x => pv x.blk := by
  rw [← get_perm hA (perm_end hs hx) a]
  exact get_blk (by rw [List.map_append, List.map_append]; rfl) a
theorem CkM.newest (h : CkM w B c L) (hs : Srt c.H) (hA : Apart c.H) {x : Sx} (hx : x ∈ c.H) (hl : x.b.length = 128) (v : Value) (hv : v = .int .i64 ((c.uses + 1 : Nat) : Int)) :
    CkM ((w.setCell ⟨c.C, 2, none⟩ v).setCell ⟨x.blk, 129, none⟩ v) B (c.newest x) L := by
  subst hv
  have hxc := h.cx hx
  have hw : ∀ k, k ≠ c.C → k ≠ x.blk → ((w.setCell ⟨c.C, 2, none⟩ (.int .i64 ((c.uses + 1 : Nat) : Int))).setCell ⟨x.blk, 129, none⟩ (.int .i64 ((c.uses + 1 : Nat) : Int))).heap[k]? = w.heap[k]? := fun k h1 h2 => by
    rw [heap_set_other _ ⟨x.blk, 129, none⟩ _ h2, heap_set_other _ ⟨c.C, 2, none⟩ _ h1]
  refine ⟨?_, ?_, fun y hy => ?_, ?_, ?_, fun k hk => h.over k ((newest_foot hs hx k).1 hk)⟩
  · have := h.hdr.set 2 (.int .i64 ((c.uses + 1 : Nat) : Int))
    unfold Vw at this ⊢
    rw [show (c.newest x).C = c.C from rfl, heap_set_other _ ⟨x.blk, 129, none⟩ _ (Ne.symm hxc), this]; rfl
  · obtain ⟨l, m1, m2, m3⟩ := h.map
    refine ⟨l, m1.blk (hw _ (Ne.symm h.cm) (Ne.symm (h.mx hx))), ?_, fun a => by rw [m3]; exact (get_end hs hA hx _ a).symm⟩
    have := (newest_map Sx.blk hs hx (c.uses + 1) rfl).length_eq
    rw [List.length_map, List.length_map] at this
    exact m2.trans this.symm
  · rcases List.mem_append.1 hy with hy | hy
    · obtain ⟨h1, h2⟩ := mem_but.1 hy
      unfold Vw
      rw [hw _ (h.cx h1) (fun e => h2 (by rw [blk_inj h.blk h1 hx e]))]
      exact h.sec y h1
    · rw [List.mem_singleton] at hy
      subst hy
      have h1 : Vw (w.setCell ⟨c.C, 2, none⟩ (.int .i64 ((c.uses + 1 : Nat) : Int))) 86 x.blk x.cells := by
        unfold Vw
        rw [heap_set_other _ ⟨c.C, 2, none⟩ _ hxc]; exact h.sec x hx
      have := h1.set 129 (.int .i64 ((c.uses + 1 : Nat) : Int))
      rw [Sx.set129 hl] at this
      exact this
  · exact own_blk h.own fun k hk => hw _ (h.lc hk) (h.lx hk hx)
  · exact (newest_map Sx.blk hs hx (c.uses + 1) rfl).symm.nodup h.blk
theorem CkM.there (h : CkM w B c L) : B ≤ w.heap.size := Nat.le_of_lt (Nat.lt_of_le_of_lt (h.over _ (foot_c c)) h.hdr.lt)
theorem renew_c (h : CkM w B c L) (hO : CkOk c L) {x : Sx} (hx : x ∈ c.H) (hu : c.uses < 1000000) :
    Calls Try.prog 54 #[pv c.C, pv x.blk] w fun e w' => e = .returned (.tuple #[]) ∧ CkM w' B (c.newest x) L ∧ Step w c.foot w' (c.newest x).foot := by
  have hl := hO.len x hx
  have hw1 : IntKind.i64.wrap ((c.uses : Int) + 1) = (c.uses : Int) + 1 := by rw [IntKind.wrap_i64]; omega
  have hM := Lib.hid (h.newest hO.srt hO.pos hx hl (.int .i64 ((c.uses : Int) + 1)) rfl)
  have hF := Lib.hid (fun k => newest_foot (c := c) hO.srt hx k)
  have c2 := h.hdr.cell (k := 2) rfl
  have f2 := h.hdr.frozen 2
  have fx := (h.sec x hx).frozen 129
  have cx := (h.sec x hx).cell (Sx.c129 hl)
  have hxc := h.cx hx
  have hxf := Lib.hid (foot_x hx)
  unfold pv
  clear h hO hx
  go_enter Try.func54, Try.ntmps54
  go_wp2_with fail
  go_end0
  refine ⟨rfl, hM.out, rfl, rfl, rfl, by rw [size_set, size_set]; exact Nat.le_refl _, fun k hk hf => ?_, fun k hk => .inl ((hF.out k).1 hk)⟩
  rw [heap_set_other _ ⟨x.blk, 129, none⟩ _ (show k ≠ x.blk from fun e => hf (e ▸ hxf.out)), heap_set_other _ ⟨c.C, 2, none⟩ _ (show k ≠ c.C from fun e => hf (e ▸ foot_c c))]
end
end Go.Proofs.Ytedbfehoeflmgaa
end
