/-
  What a tree in memory is when a part of it has turned.
  A node hung at a place.
  A name taken away.
-/
import Derived.Test.YtgcodlicbdaddaaGreatDoorB10
import Derived.Test.YtgcodlicbdaddaaGreatDoorB16
import Derived.Test.YtgcodlicbdaddaaGreatDoorB17
import Derived.Test.YtgcodlicbdaddaaGreatDoorB18
import Derived.StillTailTactics
import Derived.Deep.DeepCutAuto
import Derived.Deep.CutBlock

section
set_option linter.unusedVariables false
set_option linter.unusedSimpArgs false
namespace Go.Proofs.YtgcodlicbdaddaaGreatDoor
open Go.RowKit BigFrame
set_option maxRecDepth 100000

/-! ### Lists -/
theorem Tr.opt_put {s : Tr} {i : Nat} {x y : Nd} (h : s.opt i = some x) (j : Nat) : (s.put i y).opt j = if j = i then some y else s.opt j := by
  have hi := Tr.opt_lt h
  unfold Tr.opt Tr.put
  simp only [List.getD, List.getElem?_set]
  by_cases e : i = j
  · subst e; simp [hi]
  · rw [if_neg e, if_neg (Ne.symm e)]
theorem Tr.opt_put_same {s : Tr} {i : Nat} {x y : Nd} (h : s.opt i = some x) : (s.put i y).opt i = some y := by rw [Tr.opt_put h, if_pos rfl]
theorem Tr.opt_put_other {s : Tr} {i j : Nat} {x y : Nd} (h : s.opt i = some x) (hn : j ≠ i) : (s.put i y).opt j = s.opt j := by rw [Tr.opt_put h, if_neg hn]
theorem Tr.put_put (s : Tr) (i : Nat) (x y : Nd) : (s.put i x).put i y = s.put i y := by unfold Tr.put; simp
theorem Tr.put_len (s : Tr) (i : Nat) (x : Nd) : (s.put i x).nd.length = s.nd.length := by simp [Tr.put]
theorem nodesL_congr {A : Ad} {o o' : Nat → Option Nd} {n : Nat} (h : ∀ i, (o i).isSome = (o' i).isSome) : nodesL A o n = nodesL A o' n := by
  unfold nodesL
  congr 1
  funext i
  have := h i
  cases h1 : o i <;> cases h2 : o' i <;> rw [h1, h2] at this <;> first | rfl | cases this
theorem ndc_tail_set {i : Nat} {x : Nd} {v en : Value} (hw : x.wr.length = 162) (k : Nat) (u : Value) : (ndc i x v en).set (166 + k) u = ndh i x v ++ (x.wr.map Value.bool ++ (ndt x en).set k u) := by
  unfold ndc
  rw [List.set_append_right _ _ (by simp [ndh]; omega), List.set_append_right _ _ (by simp [ndh, hw]; omega)]
  congr 3
  simp [ndh, hw]
  omega

section
variable {w w' : World} {B : Nat} {A : Ad} {s : Tr} {i : Nat} {x : Nd}
theorem TreeAt.apart_v (h : TreeAt w B A s) (hi : s.opt i = some x) : (A.da i).ownBlock ≠ some (A.nd i) := fun e => by
  have h1 := h.rd i x hi _ e
  rw [h.rn i x hi] at h1
  have := Option.some.inj h1
  omega
theorem TreeAt.apart_e (h : TreeAt w B A s) (hi : s.opt i = some x) {b : Nat} (e : A.en i = .map (some b)) : b ≠ A.nd i ∧ (A.da i).ownBlock ≠ some b := by
  have h1 := h.re i x hi b e
  refine ⟨fun e2 => ?_, fun e2 => ?_⟩
  · rw [e2, h.rn i x hi] at h1
    have := Option.some.inj h1
    omega
  · have h2 := h.rd i x hi b e2
    rw [h1] at h2
    have := Option.some.inj h2
    omega
/-- a node has turned, where it lies and what its bytes and entries are stays -/
theorem TreeAt.node_turn {x' : Nd} (h : TreeAt w B A s) (hi : s.opt i = some x) (hs : w.heap.size ≤ w'.heap.size) (hoth : ∀ k r, A.own k = some r → r ≠ 3 * i + 3 → r ≠ 3 * i + 5 → w'.heap[k]? = w.heap[k]?) (hN : NodeAt w' B (A.nd i) i x' (A.da i) (A.en i)) : TreeAt w' B A (s.put i x') where
  tb := by
    have h1 := h.tb
    unfold Vw treeC at h1 ⊢
    rw [hoth _ _ h.rt (by omega) (by omega), Tr.put_len]
    exact h1
  tab := ⟨by have h1 := h.tab.row; unfold Vw at h1 ⊢; rw [hoth _ _ h.rf (by omega) (by omega)]; exact h1, h.tab.len⟩
  map := by
    have e0 : nodesL A (s.put i x').opt s.nd.length = nodesL A s.opt s.nd.length := nodesL_congr fun j => by
      rw [Tr.opt_put hi]
      by_cases e : j = i
      · rw [if_pos e, e, hi]; rfl
      · rw [if_neg e]
    rw [Tr.put_len, e0]
    exact h.map.blk (hoth _ _ h.rm (by omega) (by omega))
  node := fun j y hy => by
    rw [Tr.opt_put hi] at hy
    by_cases e : j = i
    · rw [if_pos e] at hy
      obtain rfl := Option.some.inj hy
      rw [e]; exact hN
    · rw [if_neg e] at hy
      exact (h.node j y hy).blk (hoth _ _ (h.rn j y hy) (by omega) (by omega)) (fun g eg => hoth _ _ (h.rd j y hy g eg) (by omega) (by omega)) (fun b eb => hoth _ _ (h.re j y hy b eb) (by omega) (by omega))
  rt := h.rt
  rm := h.rm
  rf := h.rf
  rn := fun j y hy => by
    rw [Tr.opt_put hi] at hy
    by_cases e : j = i
    · rw [e]; exact h.rn i x hi
    · rw [if_neg e] at hy; exact h.rn j y hy
  rd := fun j y hy => by
    rw [Tr.opt_put hi] at hy
    by_cases e : j = i
    · rw [e]; exact h.rd i x hi
    · rw [if_neg e] at hy; exact h.rd j y hy
  re := fun j y hy => by
    rw [Tr.opt_put hi] at hy
    by_cases e : j = i
    · rw [e]; exact h.re i x hi
    · rw [if_neg e] at hy; exact h.re j y hy
  hi := fun b r hb => ⟨(h.hi b r hb).1, Nat.lt_of_lt_of_le (h.hi b r hb).2 hs⟩
/-- one cell of a node is written -/
theorem TreeAt.set_cell {x' : Nd} (h : TreeAt w B A s) (hi : s.opt i = some x) (k : Nat) (u : Value) (hrow : (ndc i x (A.da i) (A.en i)).set k u = ndc i x' (A.da i) (A.en i)) (hd : x'.data = x.data) (hw : x'.wr.length = 162) (he : x'.ents = x.ents) (hk : x'.kind = x.kind) :
    TreeAt (w.setCell ⟨A.nd i, k, none⟩ u) B A (s.put i x') := by
  have hN := h.node i x hi
  have hdf : ∀ g, (A.da i).ownBlock = some g → (w.setCell ⟨A.nd i, k, none⟩ u).heap[g]? = w.heap[g]? := fun g e => heap_set_other w ⟨A.nd i, k, none⟩ u (fun e2 => h.apart_v hi (by rw [← show g = A.nd i from e2]; exact e))
  refine h.node_turn hi (Nat.le_of_eq (size_set _ _ _).symm) (fun j r hj h3 _ => heap_set_other w ⟨A.nd i, k, none⟩ u (fun e => by
    have h4 := h.rn i x hi
    rw [show j = A.nd i from e, h4] at hj
    exact h3 (Option.some.inj hj).symm)) ⟨?_, ?_, hw, by rw [hd]; exact hN.oct, by rw [hd]; exact hN.dl, ?_, fun h3 => by rw [hd]; exact (hN.own (hk ▸ h3)).blk hdf⟩
  · rw [← hrow]; exact hN.row.set k u
  · rw [hd]; exact hN.data.blk hdf
  · exact hN.ents.blk hk he fun b e => heap_set_other w ⟨A.nd i, k, none⟩ u (h.apart_e hi e).1
theorem TreeAt.set_links (h : TreeAt w B A s) (hi : s.opt i = some x) (n : Nat) : TreeAt (w.setCell ⟨A.nd i, 2, none⟩ (.int .i64 ((n : Nat) : Int))) B A (s.put i { x with links := n }) :=
  h.set_cell hi 2 _ rfl rfl (h.node i x hi).wrl rfl rfl
theorem TreeAt.set_most (h : TreeAt w B A s) (hi : s.opt i = some x) (n : Nat) : TreeAt (w.setCell ⟨A.nd i, 167, none⟩ (.int .i64 ((n : Nat) : Int))) B A (s.put i { x with most := n }) :=
  h.set_cell hi 167 _ (by rw [show (167 : Nat) = 166 + 1 from rfl, ndc_tail_set (h.node i x hi).wrl]; rfl) rfl (h.node i x hi).wrl rfl rfl
theorem TreeAt.set_up (h : TreeAt w B A s) (hi : s.opt i = some x) (n : Nat) : TreeAt (w.setCell ⟨A.nd i, 168, none⟩ (.int .i64 ((n : Nat) : Int))) B A (s.put i { x with up := n }) :=
  h.set_cell hi 168 _ (by rw [show (168 : Nat) = 166 + 2 from rfl, ndc_tail_set (h.node i x hi).wrl]; rfl) rfl (h.node i x hi).wrl rfl rfl
theorem TreeAt.set_nm (h : TreeAt w B A s) (hi : s.opt i = some x) (p : List Nat) : TreeAt (w.setCell ⟨A.nd i, 169, none⟩ (.string (strOf p))) B A (s.put i { x with nm := p }) :=
  h.set_cell hi 169 _ (by rw [show (169 : Nat) = 166 + 3 from rfl, ndc_tail_set (h.node i x hi).wrl]; rfl) rfl (h.node i x hi).wrl rfl rfl
/-- a directory's entries have turned -/
theorem TreeAt.set_ents (h : TreeAt w B A s) (hi : s.opt i = some x) (hk : x.kind = 2) {eb : Nat} (hee : A.en i = .map (some eb)) (es : List (List Nat × Nat)) (ht : w.mapTurned w' eb) (hm : MapAt 9 w' eb (entsL es)) : TreeAt w' B A (s.put i { x with ents := es }) := by
  have hN := h.node i x hi
  have hre := h.re i x hi eb hee
  refine h.node_turn hi (Nat.le_of_eq (mturn_size ht).symm) (fun j r hj _ h5 => mturn_blk ht (fun e => by
    rw [e, hre] at hj
    exact h5 (Option.some.inj hj).symm)) ⟨?_, ?_, hN.wrl, hN.oct, hN.dl, ⟨fun _ => ⟨eb, hee, (hN.entB hee).1, hm⟩, fun h2 => absurd hk h2⟩, fun h3 => (hN.own h3).blk fun g e => mturn_blk ht (fun e2 => (h.apart_e hi hee).2 (by rw [← e2]; exact e))⟩
  · have h1 := hN.row
    unfold Vw at h1 ⊢
    rw [mturn_blk ht (Ne.symm (h.apart_e hi hee).1)]
    exact h1
  · exact hN.data.blk fun g e => mturn_blk ht (fun e2 => (h.apart_e hi hee).2 (by rw [← e2]; exact e))
/-- the places have turned -/
theorem TreeAt.set_tab {L : List Plc} (h : TreeAt w B A s) (ht : Turn A.f w w') (hT : TabAt w' A.f L) : TreeAt w' B A { s with tb := L } := by
  have hne : ∀ k r, A.own k = some r → r ≠ 2 → w'.heap[k]? = w.heap[k]? := fun k r hk hr => ht.block k (h.hi k r hk).2 (fun e => by
    rw [e, h.rf] at hk
    exact hr (Option.some.inj hk).symm)
  refine ⟨?_, hT, ?_, fun j y hy => ?_, h.rt, h.rm, h.rf, h.rn, h.rd, h.re, fun b r hb => ⟨(h.hi b r hb).1, Nat.lt_of_lt_of_le (h.hi b r hb).2 ht.size⟩⟩
  · have h1 := h.tb
    unfold Vw treeC at h1 ⊢
    rw [hne _ _ h.rt (by omega)]
    exact h1
  · exact h.map.blk (hne _ _ h.rm (by omega))
  · have hy' : s.opt j = some y := hy
    exact (h.node j y hy').blk (hne _ _ (h.rn j y hy') (by omega)) (fun g eg => hne _ _ (h.rd j y hy' g eg) (by omega)) (fun b eb => hne _ _ (h.re j y hy' b eb) (by omega))
end
end Go.Proofs.YtgcodlicbdaddaaGreatDoor
end

section
set_option linter.unusedVariables false
set_option linter.unusedSimpArgs false
namespace Go.Proofs.YtgcodlicbdaddaaGreatDoor
open Go.RowKit BigFrame
set_option maxRecDepth 100000

/-! ### The order of names -/
theorem before_u8s : ∀ {p q : List Nat}, Octs p → Octs q → bytesBefore (u8s p) (u8s q) = decide (p < q)
  | [], [], _, _ => by simp [u8s, bytesBefore]
  | [], b :: q, _, _ => by simp [u8s, bytesBefore]
  | a :: p, [], _, _ => by simp [u8s, bytesBefore]
  | a :: p, b :: q, hp, hq => by
    have h1 : a < 256 := hp 0 (by simp)
    have h2 : b < 256 := hq 0 (by simp)
    have hp' : Octs p := fun k hk => by have := hp (k + 1) (by simpa using hk); simpa [bz] using this
    have hq' : Octs q := fun k hk => by have := hq (k + 1) (by simpa using hk); simpa [bz] using this
    have ih := before_u8s hp' hq'
    show (decide (UInt8.ofNat a < UInt8.ofNat b) || (UInt8.ofNat a == UInt8.ofNat b && bytesBefore (u8s p) (u8s q))) = _
    rw [ih]
    have e1 : decide (UInt8.ofNat a < UInt8.ofNat b) = decide (a < b) := decide_eq_decide.2 (by rw [UInt8.lt_iff_toNat_lt]; simp only [UInt8.toNat_ofNat']; omega)
    have e2 : (UInt8.ofNat a == UInt8.ofNat b) = decide (a = b) := by
      by_cases e : a = b
      · rw [e]; simp
      · rw [decide_eq_false e, beq_eq_false_iff_ne]
        intro h
        have := congrArg UInt8.toNat h
        simp only [UInt8.toNat_ofNat'] at this
        omega
    rw [e1, e2]
    by_cases h3 : a < b
    · simp [h3, List.cons_lt_cons_iff]
    · by_cases h4 : a = b
      · subst h4; simp [List.cons_lt_cons_iff]
      · simp [h3, h4, List.cons_lt_cons_iff]
theorem insL_ents {p : List Nat} (hp : Octs p) (n : Nat) : ∀ {l : List (List Nat × Nat)}, (∀ e ∈ l, Octs e.1) → insL (entL (p, n)) (entsL l) = entsL (insE p n l)
  | [], _ => rfl
  | e :: r, h => by
    have ih := insL_ents hp n (l := r) (fun x hx => h x (List.mem_cons_of_mem _ hx))
    have hb : (entL (p, n)).1.before (entL e).1 = decide (p < e.1) := before_u8s hp (h e List.mem_cons_self)
    show insL (entL (p, n)) (entL e :: entsL r) = _
    unfold insL insE
    rw [hb]
    by_cases h1 : p < e.1
    · rw [decide_eq_true h1, if_pos rfl, if_pos h1]; rfl
    · rw [decide_eq_false h1, if_neg (by decide), if_neg h1, ih]; rfl
theorem look_none : ∀ {l : List (List Nat × Nat)} {p : List Nat}, lookE l p = 0 → (∀ e ∈ l, e.2 ≠ 0) → ∀ e ∈ l, e.1 ≠ p
  | e :: r, p, h, h0, x, hx => by
    unfold lookE at h
    by_cases he : e.1 = p
    · rw [if_pos he] at h; exact absurd h (h0 e List.mem_cons_self)
    · rw [if_neg he] at h
      rcases List.mem_cons.1 hx with rfl | hx
      · exact he
      · exact look_none h (fun x hx => h0 x (List.mem_cons_of_mem _ hx)) x hx
theorem delE_none {l : List (List Nat × Nat)} {p : List Nat} (h : ∀ e ∈ l, e.1 ≠ p) : delE p l = l := List.filter_eq_self.2 fun e he => decide_eq_true (h e he)
theorem insE_length (p : List Nat) (n : Nat) : ∀ l : List (List Nat × Nat), (insE p n l).length = l.length + 1
  | [] => rfl
  | e :: r => by
    unfold insE
    split
    · rfl
    · simp [insE_length p n r]
section
variable {w : World} {B b : Nat} {A : Ad} {s : Tr}
theorem TStep.cell {i : Nat} {x : Nd} (h : TreeAt w B A s) (hi : s.opt i = some x) (k : Nat) (u : Value) : TStep w A (w.setCell ⟨A.nd i, k, none⟩ u) A :=
  ⟨rfl, rfl, rfl, Nat.le_of_eq (size_set _ _ _).symm, fun j _ hn => heap_set_other w ⟨A.nd i, k, none⟩ u (fun e => by
    have h1 := h.rn i x hi
    rw [show j = A.nd i from e, h1] at hn
    cases hn), fun _ _ => rfl, rfl⟩
theorem TStep.turned {w' : World} {eb r : Nat} (h : A.own eb = some r) (ht : w.mapTurned w' eb) : TStep w A w' A :=
  have hg := ht.grown
  ⟨hg.os, hg.tape, hg.output, hg.size, fun j hj hn => hg.block j hj (fun e => by
    rw [Option.some.inj e, h] at hn
    cases hn), fun _ _ => rfl, rfl⟩
theorem TStep.drew (w : World) (A : Ad) : TStep w A w.drew A := TStep.of_below A (Below.refl _ _).drew
def TurnPost (B : Nat) (A : Ad) (s : Tr) (w : World) (e : Ending) (w' : World) : Prop := e = .returned (.tuple #[]) ∧ TreeAt w' B A s ∧ TStep w A w' A
set_option maxHeartbeats 2000000 in
theorem put_any (h : TreeAt w B A s) (hb : b ≤ 1000000) {d i : Nat} {y x : Nd} (hd : s.opt d = some y) (hk : y.kind = 2) (hi : s.opt i = some x) (hyd : NodeOk b y) (hpos : ∀ e ∈ y.ents, e.2 ≠ 0) (hxl : x.links ≤ b) (hdi : d ≠ i) {nm : List Nat} (hn : Octs nm) (hl : nm.length ≤ 24) (hfr : lookE y.ents nm = 0) (o : Option Addr) (th : Nat) :
    Calls Tryz.prog 130 #[.pointer (some ⟨A.t, 0, none⟩), .agg #[.pointer (some ⟨A.nd d, 0, none⟩), .string (strOf nm), .pointer o], .pointer (some ⟨A.nd i, 0, none⟩)] w (TurnPost B A (s.hang ⟨d, nm, th⟩ i) w) := by
  obtain ⟨eb, hee, _, hm⟩ := (h.node d y hd).ents.dir hk
  have hb0 := Lib.hid ((Below.refl w.heap.size w).alloc (Nat.le_refl _) (.cells #[.pointer (some ⟨A.nd d, 0, none⟩), .string (strOf nm), .pointer o] 171))
  have V0 := Lib.hid (show Vw (w.alloc (.cells #[.pointer (some ⟨A.nd d, 0, none⟩), .string (strOf nm), .pointer o] 171)) 171 w.heap.size [.pointer (some ⟨A.nd d, 0, none⟩), .string (strOf nm), .pointer o] from Vw.alloc w [.pointer (some ⟨A.nd d, 0, none⟩), .string (strOf nm), .pointer o] 171)
  have h' := Lib.hid h
  clear h hm
  go_enter Tryz.func130, Tryz.ntmps130
  go_wp2_with fail
  obtain ⟨w0, hw0⟩ : ∃ w0, w.alloc (.cells #[.pointer (some ⟨A.nd d, 0, none⟩), .string (strOf nm), .pointer o] 171) = w0 := ⟨_, rfl⟩
  rw [hw0] at hb0 V0 ⊢
  have T0 := Lib.hid (h'.out.below hb0.out)
  have k0 := V0.out.cell (k := 0) rfl
  have k1 := V0.out.cell (k := 1) rfl
  have ce := (T0.out.node d y hd).ent
  rw [hee] at ce
  have ci := (T0.out.node i x hi).num
  clear hw0
  go_still_tail 11, (by kernel_rfl)
  change wpList _ _ _ _ _ w0.drew
  have hm0 := Lib.hid (show MapAt 9 w0.drew eb (entsL y.ents) by
    obtain ⟨eb', e1, _, e3⟩ := (T0.out.drew.node d y hd).ents.dir hk
    have e4 : eb = eb' := by have e5 := hee.symm.trans e1; simpa using e5
    exact e4 ▸ e3)
  have hlen := Lib.hid (show (entsL y.ents).length < maxLen by have := hyd.few; simp only [entsL, List.length_map]; unfold maxLen; omega)
  have hoc : ∀ e ∈ y.ents, Octs e.1 := fun e he => (hyd.names e he).octs
  have hins := Lib.hid (show insL (.string (u8s nm), .int .i64 ((i : Nat) : Int)) (strL (entsL y.ents) (.string (u8s nm))) = entsL (insE nm i y.ents) by
    rw [strL_ents hoc hn, delE_none (look_none hfr hpos)]
    exact insL_ents hn i hoc)
  go_wp2_with (at_mapUpdate; refine wpList_map_store rfl _ _ _ rfl law_str Tryz.underlying74 eb (entsL y.ents) rfl hm0.out hlen.out (.string (strOf nm)) (.int .i64 ((i : Nat) : Int)) (.string (u8s nm)) rfl rfl (keyS_of nm (by omega)) ?_; intro w1 hm1 ht1)
  have hre := h'.out.re d y hd eb hee
  have hebl := h'.out.hi _ _ hre
  obtain ⟨y1, hy1⟩ : ∃ y1, { y with ents := insE nm i y.ents } = y1 := ⟨_, rfl⟩
  have T1 := Lib.hid (show TreeAt w1 B A (s.put d y1) by rw [← hy1]; exact T0.out.drew.set_ents hd hk hee _ ht1.out (hins.out ▸ hm1.out))
  have hd1 := Tr.opt_put_same (y := y1) hd
  have V1 := Lib.hid (show Vw w1 171 w.heap.size [.pointer (some ⟨A.nd d, 0, none⟩), .string (strOf nm), .pointer o] by
    have h1 := V0.out
    unfold Vw at h1 ⊢
    rw [mturn_blk ht1.out (by omega)]
    exact h1)
  have S1 := Lib.hid (((TStep.of_below A hb0.out).trans (TStep.drew w0 A)).trans (TStep.turned hre ht1.out))
  have k0 := V1.out.drew1.cell (k := 0) rfl
  have hN1 := T1.out.drew.node d y1 hd1
  have ce := hN1.ent
  rw [hee] at ce
  have cm := hN1.most
  rw [show y1.most = y.most by rw [← hy1]] at cm
  have fm := hN1.frozen 167
  have hm2 : MapAt 9 w1.drew eb (entsL (insE nm i y.ents)) := hins.out ▸ hm1.out
  have hln := hm2.len Tryz.underlying74 3
  rw [show (entsL (insE nm i y.ents)).length = y.ents.length + 1 by simp only [entsL, List.length_map]; exact insE_length _ _ _] at hln
  obtain ⟨m, hm⟩ : ∃ m, y.ents.length + 1 = m := ⟨_, rfl⟩
  rw [hm] at hln
  have hs2 := Lib.hid (show ∀ mx, mx = max y.most m → (s.put d y1).put d { y1 with most := mx } = s.put d (y.enter nm i) from fun mx hmx => by rw [Tr.put_put, ← hy1, hmx, ← hm]; rfl)
  have hyb := hyd.most
  have hyf := hyd.few
  clear hm1 ht1 hN1 hm2 hm0 hins hlen hoc hm
  go_still_tail 16, (by kernel_rfl)
  change wpList _ _ _ _ _ w1.drew
  go_upto_region 3 with fail
  obtain ⟨w2, hw2⟩ : ∃ w2, (w1.setCell ⟨A.nd d, 167, none⟩ (.int .i64 (max ((y.most : Nat) : Int) ((m : Nat) : Int)))).drew = w2 := ⟨_, rfl⟩
  rw [hw2]
  have hmx : (max ((y.most : Nat) : Int) ((m : Nat) : Int)) = ((max y.most m : Nat) : Int) := by omega
  rw [hmx] at hw2
  have T2 := Lib.hid (show TreeAt w2 B A (s.put d (y.enter nm i)) by
    rw [← hs2.out _ rfl, ← hw2]
    exact (T1.out.set_most hd1 _).drew)
  have S2 := Lib.hid (show TStep w A w2 A by rw [← hw2]; exact (S1.out.trans (TStep.cell T1.out hd1 167 _)).trans (TStep.drew _ A))
  have V2 := Lib.hid (show Vw w2 171 w.heap.size [.pointer (some ⟨A.nd d, 0, none⟩), .string (strOf nm), .pointer o] by
    have h1 := V1.out
    rw [← hw2]
    unfold Vw at h1 ⊢
    show (w1.setCell _ _).heap[w.heap.size]? = _
    rw [heap_set_other _ ⟨A.nd d, 167, none⟩ _ (fun e => by
      have := (h'.out.node d y hd).lt
      have e2 : w.heap.size = A.nd d := e
      omega)]
    exact h1)
  clear k0 ce cm fm hln T1 S1 V1 hs2 hmx hw2
  have hi2 : (s.put d (y.enter nm i)).opt i = some x := (Tr.opt_put_other hd (Ne.symm hdi)).trans hi
  have cl := (T2.out.node i x hi2).links
  have fl := (T2.out.node i x hi2).frozen 2
  go_upto_region 4 with fail
  obtain ⟨w3, hw3⟩ : ∃ w3, w2.setCell ⟨A.nd i, 2, none⟩ (.int .i64 (((x.links : Nat) : Int) + 1)) = w3 := ⟨_, rfl⟩
  rw [hw3]
  rw [show (((x.links : Nat) : Int) + 1) = ((x.links + 1 : Nat) : Int) by omega] at hw3
  obtain ⟨s2, hs2⟩ : ∃ s2, s.put d (y.enter nm i) = s2 := ⟨_, rfl⟩
  have hhang : s.hang ⟨d, nm, th⟩ i = s2.put i (x.named d nm) := by
    unfold Tr.hang
    rw [Tr.at_of hd, hs2, Tr.at_of (hs2 ▸ hi2)]
  rw [hs2] at T2 hi2
  obtain ⟨x3, hx3⟩ : ∃ x3, { x with links := x.links + 1 } = x3 := ⟨_, rfl⟩
  have T3 := Lib.hid (show TreeAt w3 B A (s2.put i x3) by rw [← hw3, ← hx3]; exact T2.out.set_links hi2 _)
  have S3 := Lib.hid (show TStep w A w3 A by rw [← hw3]; exact S2.out.trans (TStep.cell T2.out hi2 2 _))
  have V3 := Lib.hid (show Vw w3 171 w.heap.size [.pointer (some ⟨A.nd d, 0, none⟩), .string (strOf nm), .pointer o] by
    have h1 := V2.out
    rw [← hw3]
    unfold Vw at h1 ⊢
    rw [heap_set_other _ ⟨A.nd i, 2, none⟩ _ (fun e => by
      have := (h'.out.node i x hi).lt
      have e2 : w.heap.size = A.nd i := e
      omega)]
    exact h1)
  have hi3 : (s2.put i x3).opt i = some x3 := Tr.opt_put_same hi2
  have hd3 : (s2.put i x3).opt d = some (y.enter nm i) := (Tr.opt_put_other hi2 hdi).trans (by rw [← hs2]; exact Tr.opt_put_same hd)
  have ck := (T3.out.node i x3 hi3).kind
  have hhg := Lib.hid hhang
  have hx3' := Lib.hid hx3
  clear cl fl hw3 hs2 hhang
  by_cases hxk : x.kind = 2
  · rw [show x3.kind = 2 by rw [← hx3]; exact hxk] at ck
    have k0 := V3.out.cell (k := 0) rfl
    have k1 := V3.out.cell (k := 1) rfl
    have cn := (T3.out.node d _ hd3).num
    have hN3 := T3.out.node i x3 hi3
    have f7 := hN3.frozen 168
    have f8 := hN3.frozen 169
    have c7 := hN3.up
    have c8 := hN3.nm
    have hne : A.nd d ≠ A.nd i := fun e => hdi (T3.out.nd_inj hd3 hi3 e)
    clear hN3 hx3
    go_wp2_with fail
    go_region
    have hfin := Lib.hid (show s.hang ⟨d, nm, th⟩ i = ((s2.put i x3).put i { x3 with up := d }).put i { x3 with up := d, nm := nm } by
      rw [hhg.out, Tr.put_put, Tr.put_put, ← hx3'.out]
      unfold Nd.named
      rw [if_pos hxk])
    have T4 := T3.out.set_up hi3 d
    have hi4 : ((s2.put i x3).put i { x3 with up := d }).opt i = some { x3 with up := d } := Tr.opt_put_same hi3
    have T5 := T4.set_nm hi4 nm
    have S5 := (S3.out.trans (TStep.cell T3.out hi3 168 (.int .i64 ((d : Nat) : Int)))).trans (TStep.cell T4 hi4 169 (.string (strOf nm)))
    go_wp2_with fail
    go_end0
    rw [hfin.out]
    exact ⟨rfl, T5.drew, S5.trans (TStep.drew _ A)⟩
  · have t0 : (((x3.kind : Nat) : Int) == 2) = false := nat_beq_ne (b := 2) (by rw [← hx3]; exact hxk)
    have hfin := Lib.hid (show s.hang ⟨d, nm, th⟩ i = s2.put i x3 by
      rw [hhg.out, ← hx3]
      unfold Nd.named
      rw [if_neg hxk])
    clear hx3
    go_wp2_with fail
    go_end0
    rw [hfin.out]
    exact ⟨rfl, T3.out, S3.out⟩
end
end Go.Proofs.YtgcodlicbdaddaaGreatDoor
end

section
set_option linter.unusedVariables false
set_option linter.unusedSimpArgs false
namespace Go.Proofs.YtgcodlicbdaddaaGreatDoor
open Go.RowKit BigFrame
set_option maxRecDepth 100000

section
variable {w : World} {B b : Nat} {A : Ad} {s : Tr}
set_option maxHeartbeats 2000000 in
theorem take_any (h : TreeAt w B A s) (hb : b ≤ 1000000) {d i : Nat} {y x : Nd} (hd : s.opt d = some y) (hk : y.kind = 2) (hi : s.opt i = some x) (hyd : NodeOk b y) (hpos : ∀ e ∈ y.ents, e.2 ≠ 0) (hxl : x.links ≤ b) (hdi : d ≠ i) {nm : List Nat} (hn : Octs nm) (hl : nm.length ≤ 24) (hlk : 1 ≤ x.links) :
    Calls Tryz.prog 174 #[.pointer (some ⟨A.t, 0, none⟩), .agg #[.pointer (some ⟨A.nd d, 0, none⟩), .string (strOf nm), .pointer (some ⟨A.nd i, 0, none⟩)]] w (TurnPost B A (s.take ⟨d, nm, i⟩) w) := by
  obtain ⟨eb, hee, _, hm⟩ := (h.node d y hd).ents.dir hk
  have hb0 := Lib.hid ((Below.refl w.heap.size w).alloc (Nat.le_refl _) (.cells #[.pointer (some ⟨A.nd d, 0, none⟩), .string (strOf nm), .pointer (some ⟨A.nd i, 0, none⟩)] 171))
  have V0 := Lib.hid (show Vw (w.alloc (.cells #[.pointer (some ⟨A.nd d, 0, none⟩), .string (strOf nm), .pointer (some ⟨A.nd i, 0, none⟩)] 171)) 171 w.heap.size [.pointer (some ⟨A.nd d, 0, none⟩), .string (strOf nm), .pointer (some ⟨A.nd i, 0, none⟩)] from Vw.alloc w [.pointer (some ⟨A.nd d, 0, none⟩), .string (strOf nm), .pointer (some ⟨A.nd i, 0, none⟩)] 171)
  have h' := Lib.hid h
  clear h hm
  go_enter Tryz.func174, Tryz.ntmps174
  go_wp2_with fail
  obtain ⟨w0, hw0⟩ : ∃ w0, w.alloc (.cells #[.pointer (some ⟨A.nd d, 0, none⟩), .string (strOf nm), .pointer (some ⟨A.nd i, 0, none⟩)] 171) = w0 := ⟨_, rfl⟩
  rw [hw0] at hb0 V0 ⊢
  have T0 := Lib.hid (h'.out.below hb0.out)
  have k0 := V0.out.cell (k := 0) rfl
  have k1 := V0.out.cell (k := 1) rfl
  have ce := (T0.out.node d y hd).ent
  rw [hee] at ce
  clear hw0
  go_still_tail 7, (by kernel_rfl)
  change wpList _ _ _ _ _ w0.drew
  have hm0 := Lib.hid (show MapAt 9 w0.drew eb (entsL y.ents) by
    obtain ⟨eb', e1, _, e3⟩ := (T0.out.drew.node d y hd).ents.dir hk
    have e4 : eb = eb' := by have e5 := hee.symm.trans e1; simpa using e5
    exact e4 ▸ e3)
  have hoc : ∀ e ∈ y.ents, Octs e.1 := fun e he => (hyd.names e he).octs
  have hstr := Lib.hid (strL_ents hoc hn)
  have tk : True := trivial
  have tk3 : True := trivial
  go_upto_region 2 with (have _t := tk; refine wpList_map_drop rfl _ _ rfl law_str Tryz.underlying74 eb (entsL y.ents) rfl hm0.out (.string (strOf nm)) (.string (u8s nm)) rfl (keyS_of nm (by omega)) ?_; intro w1 hm1 ht1; clear tk)
  have hre := h'.out.re d y hd eb hee
  have hebl := h'.out.hi _ _ hre
  obtain ⟨y1, hy1⟩ : ∃ y1, { y with ents := delE nm y.ents } = y1 := ⟨_, rfl⟩
  have T1 := Lib.hid (show TreeAt w1 B A (s.put d y1) by rw [← hy1]; exact T0.out.drew.set_ents hd hk hee _ ht1.out (hstr.out ▸ hm1.out))
  have V1 := Lib.hid (show Vw w1 171 w.heap.size [.pointer (some ⟨A.nd d, 0, none⟩), .string (strOf nm), .pointer (some ⟨A.nd i, 0, none⟩)] by
    have h1 := V0.out
    unfold Vw at h1 ⊢
    rw [mturn_blk ht1.out (by omega)]
    exact h1)
  have S1 := Lib.hid (((TStep.of_below A hb0.out).trans (TStep.drew w0 A)).trans (TStep.turned hre ht1.out))
  clear hm1 ht1 hm0 hstr hoc k0 k1 ce
  obtain ⟨s2, hs2⟩ : ∃ s2, s.put d y1 = s2 := ⟨_, rfl⟩
  have hi2 : s2.opt i = some x := by rw [← hs2]; exact (Tr.opt_put_other hd (Ne.symm hdi)).trans hi
  have htk : s.take ⟨d, nm, i⟩ = s2.put i x.unnamed := by
    unfold Tr.take
    rw [Tr.at_of hd, hy1, hs2, Tr.at_of hi2]
  rw [hs2] at T1
  have k2 := V1.out.cell (k := 2) rfl
  have cl := (T1.out.node i x hi2).links
  have fl := (T1.out.node i x hi2).frozen 2
  go_upto_region 3 with fail
  obtain ⟨w3, hw3⟩ : ∃ w3, w1.setCell ⟨A.nd i, 2, none⟩ (.int .i64 (((x.links : Nat) : Int) - 1)) = w3 := ⟨_, rfl⟩
  rw [hw3]
  rw [show (((x.links : Nat) : Int) - 1) = ((x.links - 1 : Nat) : Int) by omega] at hw3
  obtain ⟨x3, hx3⟩ : ∃ x3, { x with links := x.links - 1 } = x3 := ⟨_, rfl⟩
  have T3 := Lib.hid (show TreeAt w3 B A (s2.put i x3) by rw [← hw3, ← hx3]; exact T1.out.set_links hi2 _)
  have S3 := Lib.hid (show TStep w A w3 A by rw [← hw3]; exact S1.out.trans (TStep.cell T1.out hi2 2 _))
  have V3 := Lib.hid (show Vw w3 171 w.heap.size [.pointer (some ⟨A.nd d, 0, none⟩), .string (strOf nm), .pointer (some ⟨A.nd i, 0, none⟩)] by
    have h1 := V1.out
    rw [← hw3]
    unfold Vw at h1 ⊢
    rw [heap_set_other _ ⟨A.nd i, 2, none⟩ _ (fun e => by
      have := (h'.out.node i x hi).lt
      have e2 : w.heap.size = A.nd i := e
      omega)]
    exact h1)
  have hi3 : (s2.put i x3).opt i = some x3 := Tr.opt_put_same hi2
  have ck := (T3.out.node i x3 hi3).kind
  have k2 := V3.out.cell (k := 2) rfl
  have hhg := Lib.hid htk
  have hx3' := Lib.hid hx3
  clear cl fl hw3 hs2 htk
  by_cases hxk : x.kind = 2
  · rw [show x3.kind = 2 by rw [← hx3]; exact hxk] at ck
    have hN3 := T3.out.node i x3 hi3
    have f7 := hN3.frozen 168
    have f8 := hN3.frozen 169
    have c7 := hN3.up
    have c8 := hN3.nm
    have hfin := Lib.hid (show s.take ⟨d, nm, i⟩ = ((s2.put i x3).put i { x3 with up := 0 }).put i { x3 with up := 0, nm := [] } by
      rw [hhg.out, Tr.put_put, Tr.put_put, ← hx3'.out]
      unfold Nd.unnamed
      rw [if_pos hxk])
    have T4 := Lib.hid (T3.out.set_up hi3 0)
    have hi4 : ((s2.put i x3).put i { x3 with up := 0 }).opt i = some { x3 with up := 0 } := Tr.opt_put_same hi3
    have T5 := Lib.hid (T4.out.set_nm hi4 [])
    have S5 := Lib.hid ((S3.out.trans (TStep.cell T3.out hi3 168 (.int .i64 ((0 : Nat) : Int)))).trans (TStep.cell T4.out hi4 169 (.string (strOf []))))
    clear hN3 hx3
    go_wp2_with fail
    go_region
    go_wp2_with fail
    go_end0
    rw [hfin.out]
    exact ⟨rfl, T5.out.drew, S5.out.trans (TStep.drew _ A)⟩
  · have t0 : (((x3.kind : Nat) : Int) == 2) = false := nat_beq_ne (b := 2) (by rw [← hx3]; exact hxk)
    have hfin := Lib.hid (show s.take ⟨d, nm, i⟩ = s2.put i x3 by
      rw [hhg.out, ← hx3]
      unfold Nd.unnamed
      rw [if_neg hxk])
    clear hx3
    go_wp2_with fail
    go_end0
    rw [hfin.out]
    exact ⟨rfl, T3.out, S3.out⟩
end
end Go.Proofs.YtgcodlicbdaddaaGreatDoor
end
