/-
  Nodes as they are told, in a slice of the call's own.
  A node and all within it, told.
-/
import Derived.Test.YtgcodlicbdaddaaGreatDoorB42
import Derived.Test.YtgcodlicbdaddaaGreatDoorB9
import Derived.Deep.RegionHeld3
import Derived.Test.YtgcodlicbdaddaaGreatDoorB36

section
set_option linter.unusedVariables false
set_option linter.unusedSimpArgs false
namespace Go.Proofs.YtgcodlicbdaddaaGreatDoor
open Go.RowKit BigFrame
set_option maxRecDepth 100000

/-- a row, and where its bytes lie -/
structure Ro where
  row : Row5
  dv : Value
def roC (r : Ro) : List Value := [.string (strOf r.row.path), .int .i64 ((r.row.num : Nat) : Int), .int .i64 ((r.row.kind : Nat) : Int), .int .i64 ((r.row.links : Nat) : Int), r.dv]
def rosC (L : List Ro) : List Value := L.flatMap roC
theorem rosC_length : ∀ L : List Ro, (rosC L).length = L.length * 5
  | [] => rfl
  | r :: L => by
    have ih := rosC_length L
    unfold rosC at ih ⊢
    rw [List.flatMap_cons, List.length_append, ih]
    simp [roC]
    omega
theorem rosC_append (L M : List Ro) : rosC (L ++ M) = rosC L ++ rosC M := by unfold rosC; rw [List.flatMap_append]
/-- rows lie there, of one's own, their bytes apart -/
structure NodesO (w : World) (base : Nat) (v : Value) (L : List Ro) : Prop where
  row : w.ownsRow base 59 5 v L.length (rosC L)
  dat : ∀ r ∈ L, OwnB w base r.dv r.row.data
  apart : L.Pairwise fun p q => ∀ g, p.dv.ownBlock = some g → q.dv.ownBlock ≠ some g
theorem NodesO.nil (w : World) (base : Nat) : NodesO w base (.slice none 0 0) [] := ⟨World.ownsRow_nil _ _ _ _, fun r h => (by cases h), List.Pairwise.nil⟩
theorem Tryz.infoNode : (Tryz.prog.info? 59).map (fun i => (i.zero, i.size, i.bytes)) = some (some (.agg #[.string ByteArray.empty, .int .i64 0, .int .i64 0, .int .i64 0, .slice none 0 0]), 5, 64) := by kernel_rfl
theorem run_append_node {w : World} (base : Nat) (v : Value) (L : List Ro) (ty : TypeId) (hown : w.ownsRow base 59 5 v L.length (rosC L)) (ad : Addr) (cap : Nat) (r : Ro) (hnews : ∀ j u, (roC r)[j]? = some u → w.cell? (ad.add j) = some u) (h1 : r.dv.oneCell' = true)
    (hlen : L.length + 1 ≤ 2000000000000) (hbase : base ≤ w.heap.size) :
    ∃ v' w', (Builtin.append_ #[48, 48] ty #[v, .slice (some ad) 1 cap]).run Tryz.prog w = .ok v' w' ∧ w'.ownsRow base 59 5 v' (L ++ [r]).length (rosC (L ++ [r])) ∧ w.grownBy w' v.ownBlock := by
  obtain ⟨i, hi, hz0, hz1, hz2⟩ := info_parts Tryz.infoNode
  obtain ⟨v', w', hr, h3, h2, _⟩ := run_append_own (P := Tryz.prog) w base 48 ty 59 i _ 5 64 Tryz.underlying48 hi hz0 hz1 hz2 rfl (by decide) v L.length (rosC L) hown ad 1 cap (roC r) rfl hnews (by
    intro u hu
    simp only [roC, List.mem_cons, List.mem_nil_iff, or_false] at hu
    rcases hu with rfl | rfl | rfl | rfl | rfl
    · rfl
    · rfl
    · rfl
    · rfl
    · exact h1) (by unfold maxLen; omega) (by omega) hbase
  refine ⟨v', w', hr, ?_, h2⟩
  rw [List.length_append, rosC_append]
  have : rosC [r] = roC r := by simp [rosC]
  rw [this]
  exact h3
theorem step_append_node {w : World} {ops : Array Oper} {o : Oper} {a : Act} {K : Act → World → Prop} {Q : Exit → Act → World → Prop} {F : Prop} (hgd : o.guard = none) (s x : Operand)
    (ho : o.op = .call { callee := .builtin .append, args := #[s, x], argTypes := #[48, 48] })
    (base : Nat) (v : Value) (L : List Ro) (hs : a.eval s = v) (hown : w.ownsRow base 59 5 v L.length (rosC L)) (ad : Addr) (cap : Nat) (r : Ro) (hx : a.eval x = .slice (some ad) 1 cap) (hnews : ∀ j u, (roC r)[j]? = some u → w.cell? (ad.add j) = some u) (h1 : r.dv.oneCell' = true)
    (hlen : L.length + 1 ≤ 2000000000000) (hbase : base ≤ w.heap.size)
    (h : ∀ v' w', w'.ownsRow base 59 5 v' (L ++ [r]).length (rosC (L ++ [r])) → w.grownBy w' v.ownBlock → K (a.put o.dst v') w') :
    if Region.wanted o (yielded ops a.tmps) = true then Oper.wp Tryz.prog o a w K Q else F := by
  have hw : Region.wanted o (yielded ops a.tmps) = true := by simp [Region.wanted, hgd]
  rw [if_pos hw]
  obtain ⟨v', w', hr, h3, h2⟩ := run_append_node base v L o.type hown ad cap r hnews h1 hlen hbase
  unfold Oper.wp
  simp [execOp, ho, resolve, invoke, builtin, hs, hx, hr, Result.andThen]
  exact h v' w' h3 h2
end Go.Proofs.YtgcodlicbdaddaaGreatDoor
end

section
set_option linter.unusedVariables false
set_option linter.unusedSimpArgs false
namespace Go.Proofs.YtgcodlicbdaddaaGreatDoor
open Go.RowKit BigFrame
set_option maxRecDepth 100000

section
variable {B b : Nat} {A : Ad} {s : Tr}
/-- those of a tree whose blocks lie below -/
structure Low (A : Ad) (base : Nat) : Prop where
  low : ∀ g r, A.own g = some r → g < base
theorem TreeAt.lowB {w w' : World} {base : Nat} (h : TreeAt w B A s) (hl : Low A base) (hb : Below base w w') : TreeAt w' B A s := h.keep hb.size fun g r e => hb.block g (hl.low g r e)
theorem NodesO.below {w w' : World} {base : Nat} {v : Value} {L : List Ro} (h : NodesO w base v L) (hb : Below w.heap.size w w') : NodesO w' base v L := by
  refine ⟨?_, fun r hr => (h.dat r hr).blk fun g e => hb.block g ((h.dat r hr).hi e).2, h.apart⟩
  rcases h.row.2 with ⟨rfl, h0⟩ | ⟨g, cap, cur, rfl, h1, h2, h3⟩
  · exact ⟨h.row.1, .inl ⟨rfl, h0⟩⟩
  · exact ⟨h.row.1, .inr ⟨g, cap, cur, rfl, h1, (hb.block g (Array.getElem?_eq_some_iff.1 h2).1).trans h2, h3⟩⟩
/-- a row more -/
theorem NodesO.add {w w' : World} {base : Nat} {v v' : Value} {L : List Ro} {r : Ro} (h : NodesO w base v L) (hr : OwnB w base r.dv r.row.data) (hap : ∀ q ∈ L, ∀ g, q.dv.ownBlock = some g → r.dv.ownBlock ≠ some g) (hn : ∀ g, v.ownBlock = some g → r.dv.ownBlock ≠ some g)
    (hrow : w'.ownsRow base 59 5 v' (L ++ [r]).length (rosC (L ++ [r]))) (hg : w.grownBy w' v.ownBlock) : NodesO w' base v' (L ++ [r]) := by
  have hv : ∀ q ∈ L, ∀ g, q.dv.ownBlock = some g → some g ≠ v.ownBlock := fun q hq g hqg e => by
    obtain ⟨x1, x2⟩ := (h.dat q hq)
    rcases h.row.2 with ⟨rfl, _⟩ | ⟨g2, cap, cur, rfl, _, h2, _⟩
    · cases e
    · obtain rfl : g = g2 := by simpa [Value.ownBlock] using e
      rcases x2 with ⟨e2, _⟩ | ⟨g3, cap3, cur3, e2, _, h4, _⟩
      · rw [e2] at hqg; cases hqg
      · rw [e2] at hqg
        obtain rfl : g3 = g := by simpa [Value.ownBlock] using hqg
        rw [h2] at h4
        have := Option.some.inj h4
        simp only [Obj.cells.injEq] at this
        exact absurd this.2.1 (by decide)
  refine ⟨hrow, fun q hq => ?_, ?_⟩
  · rcases List.mem_append.1 hq with hq | hq
    · exact (h.dat q hq).blk fun g e => hg.block g ((h.dat q hq).hi e).2 (hv q hq g e)
    · obtain rfl : q = r := by simpa using hq
      exact hr.blk fun g e => hg.block g (hr.hi e).2 (fun e2 => hn g e2.symm e)
  · rw [List.pairwise_append]
    exact ⟨h.apart, List.pairwise_singleton _ _, fun q hq r' hr' => by
      obtain rfl : r' = r := by simpa using hr'
      exact hap q hq⟩
/-- kept, but for slices of nodes -/
structure KeepN (n : Nat) (w w' : World) : Prop where
  size : w.heap.size ≤ w'.heap.size
  block : ∀ k o, k < n → w.heap[k]? = some o → (∀ c f, o ≠ .cells c 59 f) → w'.heap[k]? = some o
theorem KeepN.trans {n : Nat} {w w1 w2 : World} (h : KeepN n w w1) (k : KeepN n w1 w2) : KeepN n w w2 := ⟨Nat.le_trans h.size k.size, fun i o hi e hn => k.block i o hi (h.block i o hi e hn) hn⟩
theorem KeepN.mono {n m : Nat} {w w1 : World} (h : KeepN n w w1) (hm : m ≤ n) : KeepN m w w1 := ⟨h.size, fun i o hi e hn => h.block i o (Nat.lt_of_lt_of_le hi hm) e hn⟩
theorem keepN_below {n : Nat} {w w1 : World} (h : Below n w w1) : KeepN n w w1 := ⟨h.size, fun i _ hi e _ => (h.block i hi).trans e⟩
theorem KeepN.grown {n base m : Nat} {v : Value} {xs : List Value} {w w1 w2 : World} (h : KeepN n w w1) (hr : w1.ownsRow base 59 5 v m xs) (hg : w1.grownBy w2 v.ownBlock) : KeepN n w w2 := h.trans ⟨hg.size, fun k o _ e hn => by
  have hk := (Array.getElem?_eq_some_iff.1 e).1
  refine (hg.block k hk fun e2 => ?_).trans e
  rcases hr.2 with ⟨rfl, _⟩ | ⟨g, cap, cur, rfl, _, h2, _⟩
  · cases e2
  · obtain rfl : k = g := by simpa [Value.ownBlock] using e2
    rw [h2] at e
    exact hn _ _ (Option.some.inj e).symm⟩
theorem KeepN.iter {n r : Nat} {w w1 w2 : World} (h : KeepN n w w1) (hg : w1.grownBy w2 (some r)) (hr : n ≤ r) : KeepN n w w2 := h.trans ⟨hg.size, fun k _ hk e _ => (hg.block k (Array.getElem?_eq_some_iff.1 e).1 (fun e2 => by have := Option.some.inj e2; omega)).trans e⟩
theorem MapOn.keepN {t : TypeId} {n eb r : Nat} {l left : List (Lit × Value)} {w w' : World} (h : MapOn t w eb r l left) (hk : KeepN n w w') (h1 : eb < n) (h2 : r < n) : MapOn t w' eb r l left := by
  obtain ⟨c, ⟨es, clock, since, seen, c0, hb, F, hs, hD, hr, rest⟩, _⟩ := id h
  refine h.blk ?_ ?_
  · rw [hk.block eb _ h1 hb (fun _ _ e => by cases e), hb]
  · rw [hk.block r _ h2 hr (fun _ _ e => by cases e), hr]
theorem NodesO.iter {t : TypeId} {base eb r : Nat} {v : Value} {L : List Ro} {l left : List (Lit × Value)} {w w' : World} (h : NodesO w base v L) (hm : MapOn t w eb r l left) (hg : w.grownBy w' (some r)) : NodesO w' base v L := by
  obtain ⟨c, ⟨es, clock, since, seen, c0, hb, F, hs, hD, hr, rest⟩, _⟩ := id hm
  refine ⟨?_, fun q hq => (h.dat q hq).blk fun g e => hg.block g ((h.dat q hq).hi e).2 fun e2 => ?_, h.apart⟩
  · rcases h.row.2 with ⟨rfl, h0⟩ | ⟨g, cap, cur, rfl, h1, h2, h3⟩
    · exact ⟨h.row.1, .inl ⟨rfl, h0⟩⟩
    · refine ⟨h.row.1, .inr ⟨g, cap, cur, rfl, h1, (hg.block g (Array.getElem?_eq_some_iff.1 h2).1 fun e2 => ?_).trans h2, h3⟩⟩
      obtain rfl := Option.some.inj e2
      rw [h2] at hr
      cases Option.some.inj hr
  · obtain rfl := Option.some.inj e2
    rcases (h.dat q hq).2 with ⟨e3, _⟩ | ⟨g3, cap3, cur3, e3, _, h4, _⟩
    · rw [e3] at e; cases e
    · rw [e3] at e
      obtain rfl : g3 = g := by simpa [Value.ownBlock] using e
      rw [h4] at hr
      cases Option.some.inj hr
/-- a row of bytes just made, appended -/
theorem NodesO.fresh {w w2 w3 w4 : World} {base : Nat} {v v' : Value} {L : List Ro} {r : Ro} (h : NodesO w base v L) (hb : base ≤ w.heap.size) (h3 : Below w.heap.size w w3) (hr : OwnB w2 w.heap.size r.dv r.row.data) (h23 : Below w2.heap.size w2 w3)
    (hrow : w4.ownsRow base 59 5 v' (L ++ [r]).length (rosC (L ++ [r]))) (hg : w3.grownBy w4 v.ownBlock) : NodesO w4 base v' (L ++ [r]) ∧ KeepN w.heap.size w w4 := by
  have h1 := h.below h3
  have hr3 := hr.on h23 (Nat.le_refl _)
  refine ⟨h1.add (hr3.lower hb) (fun q hq g e e2 => ?_) (fun g e e2 => ?_) hrow hg, (keepN_below h3).grown h1.row hg⟩
  · have := (hr3.hi e2).1
    have := ((h.dat q hq).hi e).2
    omega
  · have := (hr3.hi e2).1
    rcases h.row.2 with ⟨rfl, _⟩ | ⟨g2, cap, cur, rfl, _, h2, _⟩
    · cases e
    · obtain rfl : g2 = g := by simpa [Value.ownBlock] using e
      have := (Array.getElem?_eq_some_iff.1 h2).1
      omega
/-- what below tells -/
def BePost (s : Tr) (k i : Nat) (p : List Nat) (base : Nat) (L : List Ro) (w : World) : Ending → World → Prop := fun e w' => ∃ v' r0 R, e = .returned v' ∧ NodesO w' base v' (L ++ (r0 :: R)) ∧ r0.row = s.row p i ∧ (R.map (·.row)).Perm ((s.at i).ents.flatMap fun e => s.belowF k (p ++ 47 :: e.1) e.2) ∧ Below base w w' ∧ KeepN w.heap.size w w'
def BeAll (B : Nat) (A : Ad) (s : Tr) (k : Nat) : Prop := ∀ (w : World) (base : Nat) (v : Value) (L : List Ro) (i : Nat) (x : Nd) (p : List Nat), TreeAt w B A s → Low A base → base ≤ w.heap.size → NodesO w base v L → s.opt i = some x → (x.kind = 2 → 21 ≤ (s.path i).length + k) → p.length + 25 * k ≤ 1000 →
  L.length + (s.belowF (k + 1) p i).length ≤ 1000000000000 →
  Calls Tryz.prog 68 #[.pointer (some ⟨A.t, 0, none⟩), v, .string (strOf p), .pointer (some ⟨A.nd i, 0, none⟩)] w (BePost s k i p base L w)
/-- those that are told, and those that are left -/
def BelRel (s : Tr) (x : Nd) (j : Nat) (p : List Nat) (eb r base : Nat) (L : List Ro) (r0 : Ro) (w : World) (g : Nat) (m : Value) (wr : World) : Prop :=
  ∃ (rem : List (List Nat × Nat)) (R : List Ro), g = rem.length + 1 ∧ rem.Sublist x.ents ∧ MapOn 9 wr eb r (entsL x.ents) (entsL rem) ∧ NodesO wr base m (L ++ r0 :: R) ∧
    (R.map (·.row) ++ rem.flatMap fun e => s.belowF (j + 1) (p ++ 47 :: e.1) e.2).Perm (x.ents.flatMap fun e => s.belowF (j + 1) (p ++ 47 :: e.1) e.2) ∧ Below base w wr ∧ KeepN w.heap.size w wr
theorem MapAt.keepN {t : TypeId} {n eb : Nat} {l : List (Lit × Value)} {w w' : World} (h : MapAt t w eb l) (hk : KeepN n w w') (h1 : eb < n) : MapAt t w' eb l := by
  obtain ⟨es, clock, hb, _⟩ := id h
  exact h.blk (by rw [hk.block eb _ h1 hb (fun _ _ e => by cases e), hb])
theorem perm_del {l : List (List Nat × Nat)} (hl : l.Pairwise fun p q => p.1 ≠ q.1) {e : List Nat × Nat} (he : e ∈ l) : l.Perm (e :: delE e.1 l) := by
  induction l with
  | nil => simp at he
  | cons x r ih =>
    obtain ⟨h1, h2⟩ := List.pairwise_cons.1 hl
    unfold delE
    by_cases e1 : x.1 = e.1
    · have ex : e = x := by
        rcases List.mem_cons.1 he with h | h
        · exact h
        · exact absurd e1 (h1 e h)
      subst ex
      rw [List.filter_cons, if_neg (by simp), List.filter_eq_self.2]
      intro q hq
      exact decide_eq_true (h1 q hq).symm
    · have hm : e ∈ r := by
        rcases List.mem_cons.1 he with h | h
        · exact absurd (by rw [h]) e1
        · exact h
      rw [List.filter_cons, if_pos (by simpa using e1)]
      exact ((ih h2 hm).cons x).trans (List.Perm.swap _ _ _)
theorem strOf_cat (a b : List Nat) : strOf (a ++ b) = strOf a ++ strOf b := by
  unfold strOf
  apply ByteArray.ext
  simp
theorem node_cells (w : World) (r : Ro) : ∀ j u, (roC r)[j]? = some u → (w.alloc (.cells (roC r).toArray 59)).cell? ((⟨w.heap.size, 0, none⟩ : Addr).add j) = some u := fun j u hu => by
  rw [addr_add, Nat.zero_add]
  exact (Vw.alloc w (roC r) 59).cell hu
set_option maxHeartbeats 4000000 in
theorem below_step (ho : Ok b s) (hb : b ≤ 900000) (k : Nat) (ih : ∀ j, k = j + 1 → BeAll B A s j) : BeAll B A s k := by
  intro w base v L i x p h hlow hbase hL hi hk hpl hcnt
  have hN := h.node i x hi
  have cn := hN.num
  have ck := hN.kind
  have cl := hN.links
  have cd := hN.dat
  obtain ⟨da, dcap, hdv, hdb, hdn, hdl⟩ := hN.data.slice
  rw [hdv] at cd
  have hdl2 := Lib.hid hN.dl
  have hh := Lib.hid h
  have hx' := Lib.hid hi
  have hL' := Lib.hid hL
  have hlow' := Lib.hid hlow
  have hbase' := Lib.hid hbase
  have hnb : A.nd i < base := hlow.low _ _ (h.rn i x hi)
  have hmk := Lib.hid (show ∀ w', Below base w w' → w'.cell? ⟨A.nd i, 0, none⟩ = some (.int .i64 ((i : Nat) : Int)) ∧ w'.cell? ⟨A.nd i, 1, none⟩ = some (.int .i64 ((x.kind : Nat) : Int)) ∧ w'.cell? ⟨A.nd i, 2, none⟩ = some (.int .i64 ((x.links : Nat) : Int)) ∧ w'.cell? ⟨A.nd i, 3, none⟩ = some (.slice da x.data.length dcap) from fun w' hb' => by
    have e := hb'.block (A.nd i) hnb
    exact ⟨(World.cell?_of_block (a := ⟨A.nd i, 0, none⟩) e).trans cn, (World.cell?_of_block (a := ⟨A.nd i, 1, none⟩) e).trans ck, (World.cell?_of_block (a := ⟨A.nd i, 2, none⟩) e).trans cl, (World.cell?_of_block (a := ⟨A.nd i, 3, none⟩) e).trans cd⟩)
  have X0 := Lib.hid ((Below.refl w.heap.size w).drew)
  have Y0 := Lib.hid ((Below.refl base w).drew)
  have hcnt1 := Lib.hid (show L.length + 1 ≤ 1000000000000 by
    have h1 : (s.belowF (k + 1) p i).length = 1 + ((s.at i).ents.flatMap fun e => s.belowF k (p ++ 47 :: e.1) e.2).length := by
      show (s.row p i :: _).length = _
      rw [List.length_cons]; omega
    omega)
  have hcl := Lib.hid (fun w' (hb' : Below w.heap.size w w') => clone_any da dcap x.data.length x.data w' rfl (by have := hdl2.out; omega) (hdb.on hb' (Nat.le_refl _)) hdn)
  have hno := Lib.hid hN
  clear h hN hi hL hlow hdb hdn
  go_enter Tryz.func68, Tryz.ntmps68
  go_upto_region 1 with fail
  go_region_held3 (fun w' => w'.cell? ⟨A.nd i, 0, none⟩ = some (.int .i64 ((i : Nat) : Int)) ∧ w'.cell? ⟨A.nd i, 1, none⟩ = some (.int .i64 ((x.kind : Nat) : Int)) ∧ w'.cell? ⟨A.nd i, 2, none⟩ = some (.int .i64 ((x.links : Nat) : Int)) ∧ w'.cell? ⟨A.nd i, 3, none⟩ = some (.slice da x.data.length dcap)) (first | exact hmk.out _ Y0.out | exact hmk.out _ Y2.out | exact hmk.out _ Y3.out | exact hmk.out _ Y4.out) (first
    | (go_at_call 121; refine (hcl.out _ X0.out).mono ?_; rintro e w2 ⟨dv, rfl, ho2, hb2⟩; have X2 := Lib.hid (X0.out.trans (hb2.mono X0.out.size)); have Y2 := Lib.hid (Y0.out.trans (hb2.mono hbase'.out)); have O2 := Lib.hid ho2; obtain ⟨ca, cc, rfl, _⟩ := ho2.slice; have X3 := Lib.hid (X2.out.alloc X2.out.size (.cells #[.string (strOf p), .int .i64 ((i : Nat) : Int), .int .i64 ((x.kind : Nat) : Int), .int .i64 ((x.links : Nat) : Int), .slice ca x.data.length cc] 59)); have Y3 := Lib.hid (Y2.out.alloc (Nat.le_trans hbase'.out X2.out.size) (.cells #[.string (strOf p), .int .i64 ((i : Nat) : Int), .int .i64 ((x.kind : Nat) : Int), .int .i64 ((x.links : Nat) : Int), .slice ca x.data.length cc] 59)); have N3 := Lib.hid (node_cells w2 ⟨⟨p, i, x.kind, x.links, x.data⟩, .slice ca x.data.length cc⟩); clear ho2 hb2)
    | (refine step_append_node (by rfl) (.tmp 11) (.tmp 31) (by rfl) base v L (by rfl) (hL'.out.below X3.out).row ⟨w2.heap.size, 0, none⟩ 1 ⟨⟨p, i, x.kind, x.links, x.data⟩, .slice ca x.data.length cc⟩ (by rfl) N3.out rfl (by have := hcnt1.out; omega) (Nat.le_trans hbase'.out X3.out.size) ?_; intro v4 w4 r4 g4; have R4 := Lib.hid r4; have G4 := Lib.hid g4; have Y4 := Lib.hid (Y3.out.trans ((Below.refl _ _).grown g4 (Nat.le_trans hbase'.out X3.out.size) (fun j hj => (World.ownsRow.lt (hL'.out.below X3.out).row j hj).1))); clear r4 g4))
  have F4 := Lib.hid (hL'.out.fresh (r := ⟨⟨p, i, x.kind, x.links, x.data⟩, .slice ca x.data.length cc⟩) hbase'.out X3.out (show OwnB w2 w.heap.size (.slice ca x.data.length cc) x.data from O2.out) ((Below.refl _ _).alloc (Nat.le_refl _) _) R4.out G4.out)
  have en4 := (World.cell?_of_block (a := ⟨A.nd i, 166, none⟩) (Y4.out.block (A.nd i) hnb)).trans hno.out.ent
  obtain ⟨r0, hr0⟩ : ∃ r0 : Ro, r0 = ⟨⟨p, i, x.kind, x.links, x.data⟩, .slice ca x.data.length cc⟩ := ⟨_, rfl⟩
  rw [← hr0] at F4
  have N4 := Lib.hid F4.out.1
  have K4 := Lib.hid F4.out.2
  have hrow0 := Lib.hid (show r0.row = s.row p i by rw [hr0]; unfold Tr.row; rw [Tr.at_of hx'.out])
  clear X0 Y0 X2 Y2 O2 X3 Y3 N3 R4 G4 hr0 F4 hmk hcl cn ck cl cd hcnt1
  by_cases hkd : x.kind = 2
  · obtain ⟨eb, een, heb, hm⟩ := hno.out.ents.dir hkd
    rw [een] at en4
    have hpd : (s.path i).length ≤ 20 := by
      by_cases h0 : x.up = 0
      · rw [Tr.path_root (by rw [Tr.at_of hx'.out]; exact h0)]; exact Nat.zero_le _
      · exact (ho.path_deep hx'.out h0).2
    obtain ⟨j, rfl⟩ : ∃ j, k = j + 1 := ⟨k - 1, by have := hk hkd; omega⟩
    have hm4 := Lib.hid (hm.keepN K4.out hm.lt)
    have hkd' := Lib.hid hkd
    clear hm een hkd
    go_wp2_with (at_range; refine wpList_map_range rfl _ rfl law_str Tryz.underlying74 eb (entsL x.ents) rfl hm4.out ?_; intro w5 hmo hb5 hs5)
    go_frame
    go_loopg [1] ((x.ents).length + 1) (fun g m wr => BelRel s x j p eb w4.heap.size base L r0 w g m wr)
    case atStart => exact ⟨x.ents, [], rfl, List.Sublist.refl _, hmo.out, N4.out.below hb5.out, List.Perm.refl _, Y4.out.trans (hb5.out.mono (Nat.le_trans hbase'.out K4.out.size)), K4.out.trans (keepN_below (hb5.out.mono K4.out.size))⟩
    case round =>
      obtain ⟨rem, R, rfl, hsub, hmr, hno5, hperm, hB, hK⟩ := hrel
      have hsub' := Lib.hid hsub
      have hmr' := Lib.hid hmr
      have hno5' := Lib.hid hno5
      have hperm' := Lib.hid hperm
      have hB' := Lib.hid hB
      have hK' := Lib.hid hK
      have hNx := Lib.hid (ho.each i x hx'.out)
      have hoc := Lib.hid (show ∀ e ∈ rem, Octs e.1 ∧ e.1.length ≤ 1000000 from fun e he => ⟨(hNx.out.names e (hsub.subset he)).octs, by have := (hNx.out.names e (hsub.subset he)).long; omega⟩)
      clear hsub hmr hno5 hperm hB hK
      go_wp2_with (first
        | (at_next; refine wpList_ents_next rfl _ rfl eb w4.heap.size x.ents rem hoc.out (by simp [Act.eval]) hmr'.out (fun h0 => ?_) (fun e w6 he hm6 hl6 hg6 hs6 hen => ?_); all_goals (try (
            obtain ⟨z, hz, hzd⟩ := ho.ent i x hx'.out e (hsub'.out.subset he)
            have hB6 := Lib.hid (hB'.out.grown hg6.out (Nat.le_trans hbase'.out hK'.out.size) (fun j hj => by have := Option.some.inj hj; have := K4.out.size; have := hbase'.out; omega))
            have T6 := Lib.hid (hh.out.lowB hlow'.out hB6.out)
            have ct6 := T6.out.maps
            have lk6 := T6.out.get_some ho (by omega) hz
            have hel := Lib.hid (hNx.out.names e (hsub'.out.subset he)).long
            have hsz1 : (strOf p).size ≤ 1000 := by rw [show (strOf p).size = p.length by unfold strOf; simp [ByteArray.size]]; omega
            have hsz2 : (strOf e.1).size ≤ 24 := by rw [show (strOf e.1).size = e.1.length by unfold strOf; simp [ByteArray.size]]; exact hel.out))))
      · subst h0
        go_ret
        refine ⟨_, r0, R, rfl, hno5'.out, hrow0.out, ?_, hB'.out, hK'.out⟩
        rw [Tr.at_of hx'.out]
        have := hperm'.out
        rw [List.flatMap_nil, List.append_nil] at this
        exact this
      · have hcat : strOf p ++ { data := #[47] } ++ strOf e.1 = strOf (p ++ 47 :: e.1) := by
          rw [show p ++ 47 :: e.1 = (p ++ [47]) ++ e.1 by simp, strOf_cat, strOf_cat]
          rfl
        rw [hcat]
        have hne : i ≠ 0 := ho.e.pos hx'.out
        have hK6 := Lib.hid (hK'.out.iter hg6.out K4.out.size)
        have hno6 := Lib.hid (hno5'.out.iter hmr'.out hg6.out)
        have hpd := perm_del ((hNx.out.sorted.imp (fun {a b} (h : a.1 < b.1) => fun h2 => absurd (h2 ▸ h) (List.lt_irrefl _))).sublist hsub'.out) he
        have hpf : (rem.flatMap fun e => s.belowF (j + 1) (p ++ 47 :: e.1) e.2).Perm (s.belowF (j + 1) (p ++ 47 :: e.1) e.2 ++ (delE e.1 rem).flatMap fun e => s.belowF (j + 1) (p ++ 47 :: e.1) e.2) := hpd.flatMap_right _
        have hcnt2 : (L ++ r0 :: R).length + (s.belowF (j + 1) (p ++ 47 :: e.1) e.2).length ≤ 1000000000000 := by
          have h1 := hperm'.out.length_eq
          have h2 := hpf.length_eq
          have h3 : (s.belowF (j + 1 + 1) p i).length = ((s.at i).ents.flatMap fun e => s.belowF (j + 1) (p ++ 47 :: e.1) e.2).length + 1 := rfl
          rw [Tr.at_of hx'.out] at h3
          simp only [List.length_append, List.length_cons, List.length_map] at h1 h2 ⊢
          omega
        refine (ih j rfl w6 base _ (L ++ r0 :: R) e.2 z (p ++ 47 :: e.1) T6.out hlow'.out (Nat.le_trans (Nat.le_trans hbase'.out hK'.out.size) (Nat.le_of_eq hs6.out.symm)) hno6.out hz (fun hk2 => ?_) ?_ hcnt2).mono ?_
        · obtain ⟨e1, e2⟩ := hzd hk2
          have h1 := (ho.path_up hz (by rw [e1]; exact hne))
          rw [e1] at h1
          rw [h1, List.length_append, List.length_singleton]
          have := hk hkd'.out
          omega
        · rw [List.length_append, List.length_cons]
          have := hel.out
          omega
        · rintro e9 w7 ⟨v7, r1, R1, rfl, hno7, hrow7, hperm7, hB7, hK7⟩
          have hm7 := Lib.hid (hm6.out.keepN hK7 hm6.out.at.lt hm6.out.lt)
          have hno7' := Lib.hid hno7
          have hB7' := Lib.hid (hB6.out.trans hB7)
          have hK7' := Lib.hid (hK6.out.trans (hK7.mono hK6.out.size))
          have hp7 := Lib.hid (show ((R ++ r1 :: R1).map (·.row) ++ (delE e.1 rem).flatMap fun e => s.belowF (j + 1) (p ++ 47 :: e.1) e.2).Perm (x.ents.flatMap fun e => s.belowF (j + 1) (p ++ 47 :: e.1) e.2) from by
            refine List.Perm.trans ?_ hperm'.out
            rw [List.map_append, List.append_assoc]
            refine List.Perm.append_left _ (List.Perm.trans ?_ hpf.symm)
            refine List.Perm.append_right _ ?_
            rw [List.map_cons, hrow7]
            exact hperm7.cons _)
          clear hno7 hB7 hK7 hperm7 hpf hpd hcnt2
          go_wp2_with fail
          go_roundg ((delE e.1 rem).length + 1)
          case measure => have := hl6.out; omega
          case rel => exact ⟨delE e.1 rem, R ++ r1 :: R1, rfl, (List.filter_sublist).trans hsub'.out, hm7.out, by have := hno7'.out; rwa [List.append_assoc, List.cons_append] at this, hp7.out, hB7'.out, hK7'.out⟩
  · have ⟨een, hee⟩ := hno.out.ents.other hkd
    rw [een] at en4
    go_wp2_with (at_range; refine wpList_nil_range rfl _ rfl Tryz.underlying74 rfl ?_; intro w5 hr hb5)
    go_frame
    go_loopw [1] (fun m wr => m = v4 ∧ w5 = wr) (fun _ _ => 0)
    case atStart => exact ⟨rfl, rfl⟩
    case round =>
      obtain ⟨rfl, rfl⟩ := hrel
      go_wp2_with (at_next; refine wpList_nil_next rfl _ rfl _ rfl hr.out ?_)
      go_ret
      refine ⟨_, r0, [], rfl, N4.out.below (hb5.out.mono (Nat.le_refl _)), hrow0.out, ?_, Y4.out.trans (hb5.out.mono (Nat.le_trans hbase'.out K4.out.size)), K4.out.trans (keepN_below (hb5.out.mono K4.out.size))⟩
      rw [Tr.at_of hx'.out, hee]
      exact List.Perm.refl _
theorem below_all (ho : Ok b s) (hb : b ≤ 900000) : ∀ k, BeAll B A s k
  | 0 => below_step ho hb 0 (fun j h => absurd h (by omega))
  | k + 1 => below_step ho hb (k + 1) (fun j h => by
    obtain rfl : k = j := by omega
    exact below_all ho hb k)
end
end Go.Proofs.YtgcodlicbdaddaaGreatDoor
end
