/-
  A new tree.
  A tree in a law.
  Numbers from 0 to below n.
-/
import Derived.Test.YtgcodlicbdaddaaGreatDoorB42
import Derived.Test.YtgcodlicbdaddaaGreatDoorB44
import Derived.Lib.SlBytesConst
import Derived.Test.YtgcodlicbdaddaaGreatDoorB1

section
set_option linter.unusedVariables false
set_option linter.unusedSimpArgs false
namespace Go.Proofs.YtgcodlicbdaddaaGreatDoor
open Go.RowKit BigFrame
set_option maxRecDepth 100000

/-- before its root is made -/
def trN : Tr := ⟨[none], z16⟩
def adN (t m f : Nat) : Ad := ⟨t, m, f, fun _ => 0, fun _ => .slice none 0 0, fun _ => .map none, fun k => if k = t then some 0 else if k = m then some 1 else if k = f then some 2 else none⟩
theorem trN_opt (i : Nat) : trN.opt i = none := by
  unfold Tr.opt trN
  match i with
  | 0 => rfl
  | n + 1 => simp
theorem trN_make : (trN.make (ndNew 2)).put 1 { ndNew 2 with links := 1 } = tr0 := rfl
theorem treeAt_new {w : World} {B t m f : Nat} (hv : Vw w 72 t [.map (some m), .int .i64 0, .pointer (some ⟨f, 0, none⟩)]) (hm : MapAt 3 w m []) (ht : TabAt w f z16) (hB : B ≤ t ∧ B ≤ m ∧ B ≤ f) (h1 : t ≠ m ∧ t ≠ f ∧ m ≠ f) :
    TreeAt w B (adN t m f) trN where
  tb := hv
  tab := ht
  map := hm
  node := fun i x h => by rw [trN_opt] at h; cases h
  rt := by unfold adN; simp
  rm := by unfold adN; simp [Ne.symm h1.1]
  rf := by unfold adN; simp [Ne.symm h1.2.1, Ne.symm h1.2.2]
  rn := fun i x h => by rw [trN_opt] at h; cases h
  rd := fun i x h => by rw [trN_opt] at h; cases h
  re := fun i x h => by rw [trN_opt] at h; cases h
  hi := fun b r h => by
    unfold adN at h
    simp only at h
    by_cases e1 : b = t
    · exact ⟨by omega, by rw [e1]; exact hv.lt⟩
    · by_cases e2 : b = m
      · exact ⟨by omega, by rw [e2]; exact hm.lt⟩
      · by_cases e3 : b = f
        · exact ⟨by omega, by rw [e3]; exact ht.row.lt⟩
        · rw [if_neg e1, if_neg e2, if_neg e3] at h; cases h
set_option maxHeartbeats 1000000 in
theorem treeNew_any (w : World) :
    Calls Tryz.prog 17 #[] w fun e w' => ∃ A, e = .returned (.pointer (some ⟨A.t, 0, none⟩)) ∧ TreeAt w' w.heap.size A tr0 ∧ Below w.heap.size w w' := by
  have hmm := @run_makeMap Tryz.prog
  have B1 := Lib.hid ((Below.refl w.heap.size w).alloc (Nat.le_refl _) (.map #[] 0))
  go_enter Tryz.func17, Tryz.ntmps17
  go_upto_region 2 with (go_at_call 42; refine (Go.Proofs.YtgcodlicbdaddaaGreatDoor.new_any _).mono ?_; rintro e w2 ⟨rfl, ht, hb⟩; have T2 := Lib.hid ht; have B2 := Lib.hid (B1.out.trans (hb.mono B1.out.size)); have M2 := Lib.hid ((MapAt.made 3 w).blk (hb.block _ (by simp))); have Z2 := Lib.hid hb.size; clear hb ht)
  have hsz1 : (w.alloc (.map #[] 0)).heap.size = w.heap.size + 1 := by simp
  rw [hsz1] at T2 Z2
  obtain ⟨w3, hw3⟩ : ∃ w3, w2.alloc (.cells #[.map (some w.heap.size), .int .i64 0, .pointer (some ⟨w.heap.size + 1, 0, none⟩)] 72) = w3 := ⟨_, rfl⟩
  rw [hw3]
  have b3 : Below w2.heap.size w2 w3 := by rw [← hw3]; exact (Below.refl w2.heap.size w2).alloc (Nat.le_refl _) _
  have V3 : Vw w3 72 w2.heap.size [.map (some w.heap.size), .int .i64 0, .pointer (some ⟨w.heap.size + 1, 0, none⟩)] := by rw [← hw3]; exact Vw.alloc _ _ _
  have hz2 := T2.out.lt
  have T3 := Lib.hid (treeAt_new (B := w.heap.size) V3 (M2.out.blk (b3.block _ M2.out.lt)) (T2.out.on' b3) ⟨by omega, Nat.le_refl _, by omega⟩ ⟨by omega, by omega, by omega⟩)
  have B3 := Lib.hid (B2.out.trans (b3.mono B2.out.size))
  obtain ⟨A, hA⟩ : ∃ A, adN w2.heap.size w.heap.size (w.heap.size + 1) = A := ⟨_, rfl⟩
  have hAt : w2.heap.size = A.t := by rw [← hA]; rfl
  rw [hA] at T3
  rw [hAt]
  have hmk := Lib.hid (make_any T3.out B3.out.size (by decide) (by decide) 2)
  unfold MakePost at hmk
  have hAt' := Lib.hid hAt
  clear hw3 V3 b3 hz2 hA hAt T2 M2 Z2
  have hx1 := Lib.hid (show (trN.make (ndNew 2)).opt 1 = some (ndNew 2) from rfl)
  go_wp2_with (go_at_call 43; refine hmk.out.mono ?_; rintro e w4 ⟨g, o, rfl, hT, hS⟩; have T4 := Lib.hid hT; have S4 := Lib.hid hS; have hN := hT.node 1 (ndNew 2) hx1.out; have hgn : (A.add trN.nd.length g o).nd 1 = g := (by unfold Ad.add; simp [trN]); rw [hgn] at hN; have c2 := hN.links; have f2 := hN.frozen 2; have hgn' := Lib.hid hgn; clear hT hS hN hgn)
  go_ret
  have T5 := T4.out.set_links hx1.out 1
  rw [hgn'.out] at T5
  have e2 : (trN.make (ndNew 2)).put 1 { ndNew 2 with links := 1 } = tr0 := rfl
  rw [e2] at T5
  have hb4 : Below w.heap.size w w4 := B3.out.trans (S4.out.below T3.out B3.out.size)
  have hg : w.heap.size ≤ g := by
    have h1 := T4.out.rn 1 (ndNew 2) hx1.out
    rw [hgn'.out] at h1
    exact (T4.out.hi _ _ h1).1
  exact ⟨A.add trN.nd.length g o, rfl, T5, hb4.setCell (p := ⟨g, 2, none⟩) hg _⟩
end Go.Proofs.YtgcodlicbdaddaaGreatDoor
end

section
set_option linter.unusedVariables false
set_option linter.unusedSimpArgs false
namespace Go.Proofs.YtgcodlicbdaddaaGreatDoor
open Go.RowKit BigFrame
set_option maxRecDepth 100000
/-- a tree behind a pointer, in a law -/
structure TLive (w0 w : World) (ta B b : Nat) (A : Ad) (s : Tr) : Prop where
  tree : TreeAt w B A s
  ok : Ok b s
  low : w0.heap.size ≤ B
  bB : B ≤ w.heap.size
  below : Below w0.heap.size w0 w
  t : A.t = ta
section
variable {w0 w : World} {ta B b : Nat} {A : Ad} {s : Tr}
theorem TLive.new {w' : World} (h0 : Below w0.heap.size w0 w) (h : TreeAt w' w.heap.size A tr0) (hb : Below w.heap.size w w') : TLive w0 w' A.t w.heap.size 1 A tr0 :=
  ⟨h, ok_tr0, h0.size, hb.size, h0.trans (hb.mono h0.size), rfl⟩
theorem TLive.on {w' : World} (h : TLive w0 w ta B b A s) (hb : Below w.heap.size w w') : TLive w0 w' ta B b A s :=
  ⟨h.tree.below hb, h.ok, h.low, Nat.le_trans h.bB hb.size, h.below.trans (hb.mono h.below.size), h.t⟩
theorem TLive.oth {w' : World} {g : Nat} (h : TLive w0 w ta B b A s) (hX : Oth g w w') (hg : A.own g = none) (hlg : w0.heap.size ≤ g) : TLive w0 w' ta B b A s :=
  ⟨h.tree.oth hX hg, h.ok, h.low, by rw [hX.size]; exact h.bB, below_at h.below hX hlg, h.t⟩
theorem TLive.turn {w' : World} {A' : Ad} {s' : Tr} {b' : Nat} (h : TLive w0 w ta B b A s) (hT : TreeAt w' B A' s') (hS : TStep w A w' A') (ho : Ok b' s') : TLive w0 w' ta B b' A' s' :=
  ⟨hT, ho, h.low, Nat.le_trans h.bB hS.size, h.below.trans ⟨hS.os, hS.tape, hS.output, hS.size, fun k hk => hS.block k (Nat.lt_of_lt_of_le hk h.below.size) (by
    cases e : A.own k with
    | none => rfl
    | some r => have := (h.tree.hi k r e).1; have := h.low; omega)⟩, hS.t.trans h.t⟩
theorem OffT.oth {w' : World} {t : TypeId} {g g' : Nat} {l : List Value} (h : OffT w A t g l) (hX : Oth g' w w') (hg : g ≠ g') : OffT w' A t g l :=
  ⟨h.at_.oth hX hg, h.own⟩
/-- an operation, done -/
def LivePost (w0 : World) (ta B b : Nat) (A : Ad) (s' : Tr) (a : Ans) (w : World) (e : Ending) (w' : World) : Prop :=
  ∃ p1 n1 c1 p2 n2 c2 A', e = .returned (ansV a.code a.n a.kind a.links (.slice p1 n1 c1) (.slice p2 n2 c2)) ∧ TLive w0 w' ta B (b + 2) A' s' ∧ TStep w A w' A' ∧ OwnB w' w.heap.size (.slice p1 n1 c1) a.data ∧ OwnT w' w.heap.size (.slice p2 n2 c2) a.names ∧
    (∀ g, (Value.slice p1 n1 c1).ownBlock = some g → A'.own g = none) ∧ ∀ g, (Value.slice p2 n2 c2).ownBlock = some g → A'.own g = none
theorem Do_live (h : TLive w0 w ta B b A s) (hb : b ≤ 900000) {o : Opt} {a : Ans} {s' : Tr} (hr : s.do o = (a, s')) {p t : ByteArray} (hp : nb p = o.path) (ht : nb t = o.to) (sp : Option Addr) (cap : Nat) (hl : o.data.length ≤ 1000000) (hin : InB w A sp o.data) :
    Calls Tryz.prog 20 #[.pointer (some ⟨ta, 0, none⟩), .agg #[.int .i64 o.kind, .int .i64 o.fd, .int .i64 o.n, .int .i64 o.off, .int .i64 o.fl, .string p, .string t, .slice sp o.data.length cap]] w (LivePost w0 ta B b A s' a w) := by
  have hd := Do_any h.tree h.ok h.bB hb o.kind o.fd o.n o.off o.fl p t sp cap o.data hl hin
  rw [h.t] at hd
  have e : (⟨o.kind, o.fd, o.n, o.off, o.fl, nb p, nb t, o.data⟩ : Opt) = o := by rw [hp, ht]
  rw [e, hr] at hd
  refine hd.mono ?_
  rintro e w' ⟨p1, n1, c1, p2, n2, c2, A', he, hT, hS, o1, o2, o3, o4⟩
  have hok := h.ok.do o (by rw [← hp]; exact nb_octs p) (by rw [← ht]; exact nb_octs t) fun i x hx => (h.tree.node i x hx).dl
  rw [hr] at hok
  exact ⟨p1, n1, c1, p2, n2, c2, A', he, h.turn hT hS hok, hS, o1, o2, o3, o4⟩
theorem InB.nil : InB w A none [] := ⟨.inl rfl, .nil, fun ad e => by cases e⟩
theorem InB.three (h : TreeAt w B A s) (x y z : Nat) (hx : x < 256) (hy : y < 256) (hz : z < 256) (cs : Array Value) (fr : Nat × Nat) (hcs : cs = #[.int .u8 x, .int .u8 y, .int .u8 z]) : InB (w.alloc (.cells cs 5 fr)) A (some ⟨w.heap.size, 0, none⟩) [x, y, z] := by
  subst hcs
  have hh := heap_alloc_new w (.cells #[.int .u8 x, .int .u8 y, .int .u8 z] 5 fr)
  refine ⟨.inr ⟨w.heap.size, 0, rfl, fun k hk => ?_⟩, .cons hx (.cons hy (.cons hz .nil)), fun ad e => ?_⟩
  · unfold World.cell?
    rw [hh]
    match k, hk with
    | 0, _ => rfl
    | 1, _ => rfl
    | 2, _ => rfl
    | k + 3, hk => exact absurd hk (by simp)
  · obtain rfl := Option.some.inj e
    exact ⟨by simp, h.fresh (Nat.le_refl _)⟩
end
theorem NodesO.form {w : World} {base : Nat} {v : Value} {L : List Ro} (h : NodesO w base v L) {n : Nat} (hn : L.length = n) : ∃ p cap, v = .slice p n cap := by
  rcases h.row.2 with ⟨rfl, h0⟩ | ⟨g, cap, cur, rfl, _⟩
  · exact ⟨none, 0, by rw [← hn, h0]⟩
  · exact ⟨_, cap, by rw [hn]⟩
def oMk : Opt := ⟨9, 0, 0, 0, 0, [47, 97], [], []⟩
def oOp : Opt := ⟨1, 0, 0, 0, 33, [47, 97, 47, 102], [], []⟩
def oWr : Opt := ⟨4, 0, 0, 0, 0, [], [], [120, 121, 122]⟩
def oS1 : Opt := ⟨16, 0, 0, 0, 0, [47, 97, 47, 102], [], []⟩
def oS2 : Opt := ⟨16, 0, 0, 0, 0, [47, 98], [], []⟩
def sA := (tr0.do oMk).2
def sB := (sA.do oOp).2
def sC := (sB.do oWr).2
def sD := (sC.do oS1).2
def sE := (sD.do oS2).2
theorem do1 : (tr0.do oMk).1.code = 0 := by decide +kernel
theorem do2 : (sA.do oOp).1.code = 0 := by decide +kernel
theorem do3 : (sB.do oWr).1.n = 3 := by decide +kernel
theorem do4 : (sC.do oS1).1.n = 3 ∧ (sC.do oS1).1.kind = 1 ∧ (sC.do oS1).1.links = 1 := by decide +kernel
theorem do5 : (sD.do oS2).1.code = 5 := by decide +kernel
theorem do6 : sE.nodes.length = 3 ∧ sE.number [47, 97] = 2 ∧ sE.needB = 3 ∧ sE.needI = 3 := by decide +kernel
theorem nb1 : nb ⟨#[47, 97]⟩ = [47, 97] := by decide +kernel
theorem nb2 : nb ⟨#[47, 97, 47, 102]⟩ = [47, 97, 47, 102] := by decide +kernel
theorem nb3 : nb ⟨#[47, 98]⟩ = [47, 98] := by decide +kernel
theorem nb4 : nb ByteArray.empty = [] := by decide +kernel
/-- what the five operations of awake tell -/
theorem awake_run : ∃ (s1 s2 s3 s4 s5 : Tr) (n1 k1 l1 n2 k2 l2 c3 k3 l3 c4 n5 k5 l5 : Int) (d1 d2 d3 d4 d5 : List Nat) (m1 m2 m3 m4 m5 : List (List Nat)),
    tr0.do oMk = (⟨0, n1, k1, l1, d1, m1⟩, s1) ∧ s1.do oOp = (⟨0, n2, k2, l2, d2, m2⟩, s2) ∧ s2.do oWr = (⟨c3, 3, k3, l3, d3, m3⟩, s3) ∧ s3.do oS1 = (⟨c4, 3, 1, 1, d4, m4⟩, s4) ∧ s4.do oS2 = (⟨5, n5, k5, l5, d5, m5⟩, s5) ∧
    s5.nodes.length = 3 ∧ s5.number [47, 97] = 2 ∧ s5.needB = 3 ∧ s5.needI = 3 := by
  have h1 := do1
  have h2 := do2
  have h3 := do3
  have h4 := do4
  have h5 := do5
  have h6 := do6
  have e1 : (tr0.do oMk).2 = sA := rfl
  have e2 : (sA.do oOp).2 = sB := rfl
  have e3 : (sB.do oWr).2 = sC := rfl
  have e4 : (sC.do oS1).2 = sD := rfl
  have e5 : (sD.do oS2).2 = sE := rfl
  generalize sE = s5 at e5 h6
  generalize sD = s4 at e4 e5 h5
  generalize sC = s3 at e3 e4 h4 h5
  generalize sB = s2 at e2 e3 h3 h4
  generalize sA = s1 at e1 e2 h2 h3
  rcases q1 : tr0.do oMk with ⟨⟨c1, n1, k1, l1, d1, m1⟩, s1'⟩
  rcases q2 : s1.do oOp with ⟨⟨c2, n2, k2, l2, d2, m2⟩, s2'⟩
  rcases q3 : s2.do oWr with ⟨⟨c3, n3, k3, l3, d3, m3⟩, s3'⟩
  rcases q4 : s3.do oS1 with ⟨⟨c4, n4, k4, l4, d4, m4⟩, s4'⟩
  rcases q5 : s4.do oS2 with ⟨⟨c5, n5, k5, l5, d5, m5⟩, s5'⟩
  rw [q1] at h1 e1
  rw [q2] at h2 e2
  rw [q3] at h3 e3
  rw [q4] at h4 e4
  rw [q5] at h5 e5
  dsimp only at h1 e1 h2 e2 h3 e3 h4 e4 h5 e5
  obtain ⟨h41, h42, h43⟩ := h4
  subst h1 e1 h2 e2 h3 e3 h41 h42 h43 e4 h5 e5
  exact ⟨s1', s2', s3', s4', s5', n1, k1, l1, n2, k2, l2, c3, k3, l3, c4, n5, k5, l5, d1, d2, d3, d4, d5, m1, m2, m3, m4, m5, rfl, q2, q3, q4, q5, h6⟩
set_option maxHeartbeats 4000000 in
theorem awake_c (w : World) : Calls Tryz.prog 16 #[] w fun e w' => e = .returned (.bool true) ∧ Below w.heap.size w w' := by
  obtain ⟨s1, s2, s3, s4, s5, n1, k1, l1, n2, k2, l2, c3, k3, l3, c4, n5, k5, l5, d1, d2, d3, d4, d5, m1, m2, m3, m4, m5, r1, r2, r3, r4, r5, f1, f2, f3, f4⟩ := awake_run
  have hcv := fun (W : World) (C : Array Value) (n c : Nat) => Lib.run_convert_bytes_const (P := Tryz.prog) W 31 5 C n c Tryz.underlying31 Tryz.underlying5
  go_enter Tryz.func16, Tryz.ntmps16
  go_wp2_with (first
    | (go_at_call 17; refine (treeNew_any _).mono ?_; rintro e wn ⟨A0, rfl, hT, hb⟩; have L1 := Lib.hid (TLive.new (w0 := w) (Below.refl _ _) hT hb); have ci1 : True := trivial; clear hT hb)
    | (have _c := ci1; go_at_call 20; refine (Do_live L1.out (by omega) r1 nb1 nb4 none 0 (by decide) InB.nil).mono ?_; rintro e wa1 ⟨p1, q1, x1, p2, q2, x2, A1, rfl, hL, hS, _⟩; have M1 := Lib.hid hL; clear ci1 hL hS; have al1 : True := trivial)
    | (have _t := al1; refine wpList_alloc_ansv rfl rfl ?_; intro g1 wb1 W1 hgn hbn; have N1 := Lib.hid (M1.out.on hbn); have O1 := Lib.hid (M1.out.tree.fresh hgn); have G1 := Lib.hid hgn; clear al1 hgn hbn; have st1 : True := trivial)
    | (have _t := st1; refine wpList_store_ans rfl (.tmp 2) (.tmp 14) rfl W1.out rfl rfl 0 n1 k1 l1 _ _ _ _ _ _ rfl ?_; intro wc1 Z X; have X := X.out; have L2 := Lib.hid (N1.out.oth X O1.out (Nat.le_trans M1.out.below.size G1.out)); have V1_1 := Lib.hid (⟨Z.out, O1.out⟩ : OffT wc1 A1 38 g1 _); clear st1 X Z; have ci2 : True := trivial)
    | (have _c := ci2; go_at_call 20; refine (Do_live L2.out (by omega) r2 nb2 nb4 none 0 (by decide) InB.nil).mono ?_; rintro e wa2 ⟨p1, q1, x1, p2, q2, x2, A2, rfl, hL, hS, _⟩; have M2 := Lib.hid hL; have V1_2m := Lib.hid (V1_1.out.turn hS); clear ci2 hL hS; have al2 : True := trivial)
    | (have _t := al2; refine wpList_alloc_ansv rfl rfl ?_; intro g2 wb2 W2 hgn hbn; have N2 := Lib.hid (M2.out.on hbn); have O2 := Lib.hid (M2.out.tree.fresh hgn); have G2 := Lib.hid hgn; have V1_2a := Lib.hid (V1_2m.out.below hbn); clear al2 hgn hbn; have st2 : True := trivial)
    | (have _t := st2; refine wpList_store_ans rfl (.tmp 3) (.tmp 17) rfl W2.out rfl rfl 0 n2 k2 l2 _ _ _ _ _ _ rfl ?_; intro wc2 Z X; have X := X.out; have L3 := Lib.hid (N2.out.oth X O2.out (Nat.le_trans M2.out.below.size G2.out)); have V2_2 := Lib.hid (⟨Z.out, O2.out⟩ : OffT wc2 A2 38 g2 _); have V1_2 := Lib.hid (V1_2a.out.oth X (fun e => by have := V1_2m.out.at_.lt; have := G2.out; omega)); clear st2 X Z; have ci3 : True := trivial)
    | (have _c := ci3; go_at_call 20; refine (Do_live (L3.out.on ((Below.refl _ _).alloc (Nat.le_refl _) _)) (by omega) r3 nb4 nb4 _ 3 (by decide) (InB.three L3.out.tree 120 121 122 (by decide) (by decide) (by decide) _ _ rfl)).mono ?_; rintro e wa3 ⟨p1, q1, x1, p2, q2, x2, A3, rfl, hL, hS, _⟩; have M3 := Lib.hid hL; have V1_3m := Lib.hid ((V1_2.out.below ((Below.refl _ _).alloc (Nat.le_refl _) _)).turn hS); have V2_3m := Lib.hid ((V2_2.out.below ((Below.refl _ _).alloc (Nat.le_refl _) _)).turn hS); clear ci3 hL hS; have al3 : True := trivial)
    | (have _t := al3; refine wpList_alloc_ansv rfl rfl ?_; intro g3 wb3 W3 hgn hbn; have N3 := Lib.hid (M3.out.on hbn); have O3 := Lib.hid (M3.out.tree.fresh hgn); have G3 := Lib.hid hgn; have V1_3a := Lib.hid (V1_3m.out.below hbn); have V2_3a := Lib.hid (V2_3m.out.below hbn); clear al3 hgn hbn; have st3 : True := trivial)
    | (have _t := st3; refine wpList_store_ans rfl (.tmp 4) (.tmp 22) rfl W3.out rfl rfl c3 3 k3 l3 _ _ _ _ _ _ rfl ?_; intro wc3 Z X; have X := X.out; have L4 := Lib.hid (N3.out.oth X O3.out (Nat.le_trans M3.out.below.size G3.out)); have V3_3 := Lib.hid (⟨Z.out, O3.out⟩ : OffT wc3 A3 38 g3 _); have V1_3 := Lib.hid (V1_3a.out.oth X (fun e => by have := V1_3m.out.at_.lt; have := G3.out; omega)); have V2_3 := Lib.hid (V2_3a.out.oth X (fun e => by have := V2_3m.out.at_.lt; have := G3.out; omega)); clear st3 X Z; have ci4 : True := trivial)
    | (have _c := ci4; go_at_call 20; refine (Do_live L4.out (by omega) r4 nb2 nb4 none 0 (by decide) InB.nil).mono ?_; rintro e wa4 ⟨p1, q1, x1, p2, q2, x2, A4, rfl, hL, hS, _⟩; have M4 := Lib.hid hL; have V1_4m := Lib.hid (V1_3.out.turn hS); have V2_4m := Lib.hid (V2_3.out.turn hS); have V3_4m := Lib.hid (V3_3.out.turn hS); clear ci4 hL hS; have al4 : True := trivial)
    | (have _t := al4; refine wpList_alloc_ansv rfl rfl ?_; intro g4 wb4 W4 hgn hbn; have N4 := Lib.hid (M4.out.on hbn); have O4 := Lib.hid (M4.out.tree.fresh hgn); have G4 := Lib.hid hgn; have V1_4a := Lib.hid (V1_4m.out.below hbn); have V2_4a := Lib.hid (V2_4m.out.below hbn); have V3_4a := Lib.hid (V3_4m.out.below hbn); clear al4 hgn hbn; have st4 : True := trivial)
    | (have _t := st4; refine wpList_store_ans rfl (.tmp 5) (.tmp 25) rfl W4.out rfl rfl c4 3 1 1 _ _ _ _ _ _ rfl ?_; intro wc4 Z X; have X := X.out; have L5 := Lib.hid (N4.out.oth X O4.out (Nat.le_trans M4.out.below.size G4.out)); have V4_4 := Lib.hid (⟨Z.out, O4.out⟩ : OffT wc4 A4 38 g4 _); have V1_4 := Lib.hid (V1_4a.out.oth X (fun e => by have := V1_4m.out.at_.lt; have := G4.out; omega)); have V2_4 := Lib.hid (V2_4a.out.oth X (fun e => by have := V2_4m.out.at_.lt; have := G4.out; omega)); have V3_4 := Lib.hid (V3_4a.out.oth X (fun e => by have := V3_4m.out.at_.lt; have := G4.out; omega)); clear st4 X Z; have ci5 : True := trivial)
    | (have _c := ci5; go_at_call 20; refine (Do_live L5.out (by omega) r5 nb3 nb4 none 0 (by decide) InB.nil).mono ?_; rintro e wa5 ⟨p1, q1, x1, p2, q2, x2, A5, rfl, hL, hS, _⟩; have M5 := Lib.hid hL; have V1_5m := Lib.hid (V1_4.out.turn hS); have V2_5m := Lib.hid (V2_4.out.turn hS); have V3_5m := Lib.hid (V3_4.out.turn hS); have V4_5m := Lib.hid (V4_4.out.turn hS); clear ci5 hL hS; have al5 : True := trivial)
    | (have _t := al5; refine wpList_alloc_ansv rfl rfl ?_; intro g5 wb5 W5 hgn hbn; have N5 := Lib.hid (M5.out.on hbn); have O5 := Lib.hid (M5.out.tree.fresh hgn); have G5 := Lib.hid hgn; have V1_5a := Lib.hid (V1_5m.out.below hbn); have V2_5a := Lib.hid (V2_5m.out.below hbn); have V3_5a := Lib.hid (V3_5m.out.below hbn); have V4_5a := Lib.hid (V4_5m.out.below hbn); clear al5 hgn hbn; have st5 : True := trivial)
    | (have _t := st5; refine wpList_store_ans rfl (.tmp 6) (.tmp 28) rfl W5.out rfl rfl 5 n5 k5 l5 _ _ _ _ _ _ rfl ?_; intro wc5 Z X; have X := X.out; have L6 := Lib.hid (N5.out.oth X O5.out (Nat.le_trans M5.out.below.size G5.out)); have V5_5 := Lib.hid (⟨Z.out, O5.out⟩ : OffT wc5 A5 38 g5 _); have V1_5 := Lib.hid (V1_5a.out.oth X (fun e => by have := V1_5m.out.at_.lt; have := G5.out; omega)); have V2_5 := Lib.hid (V2_5a.out.oth X (fun e => by have := V2_5m.out.at_.lt; have := G5.out; omega)); have V3_5 := Lib.hid (V3_5a.out.oth X (fun e => by have := V3_5m.out.at_.lt; have := G5.out; omega)); have V4_5 := Lib.hid (V4_5a.out.oth X (fun e => by have := V4_5m.out.at_.lt; have := G5.out; omega)); clear st5 X Z; have ci6 : True := trivial)
    | (have _c := ci6; go_at_call 28; have hN := treeNeed_any L6.out.tree L6.out.ok (by omega); rw [f3, f4, L6.out.t] at hN; refine hN.mono ?_; rintro e wd ⟨rfl, hb⟩; have L7 := Lib.hid (L6.out.on hb); have U1 := (V1_5.out.below hb).at_.cell (k := 0) rfl; have U2 := (V2_5.out.below hb).at_.cell (k := 0) rfl; have U3 := (V3_5.out.below hb).at_.cell (k := 1) rfl; have U41 := (V4_5.out.below hb).at_.cell (k := 1) rfl; have U42 := (V4_5.out.below hb).at_.cell (k := 2) rfl; have U43 := (V4_5.out.below hb).at_.cell (k := 3) rfl; have U5 := (V5_5.out.below hb).at_.cell (k := 0) rfl; clear ci6 hb hN; have ci7 : True := trivial)
    | (have _c := ci7; go_at_call 32; have hN := treeNodes_any L7.out.tree L7.out.ok (by omega); rw [L7.out.t] at hN; refine hN.mono ?_; rintro e wf ⟨v, R, rfl, hR, hrows, hb⟩; obtain ⟨pp, cc, rfl⟩ := hR.form (n := 3) (by rw [← f1, ← hrows, List.length_map]); have L8 := Lib.hid (L7.out.on hb); clear ci7)
    | (go_at_call 24; have hN := number_any L8.out.tree L8.out.ok (by omega) ⟨#[47, 97]⟩; rw [nb1, f2, L8.out.t] at hN; refine hN.mono ?_; rintro e wg ⟨rfl, hb⟩; have L9 := Lib.hid (L8.out.on hb); clear hb))
  go_ret
  exact ⟨rfl, L9.out.below⟩
end Go.Proofs.YtgcodlicbdaddaaGreatDoor
end

section
set_option linter.unusedVariables false
set_option linter.unusedSimpArgs false
namespace Go.Proofs.YtgcodlicbdaddaaGreatDoor
open Go.RowKit

theorem u64_wrap (x : Int) : IntKind.u64.wrap x = x % 18446744073709551616 := IntKind.wrap_u64 x
/-- x as an unsigned number, by n, what is left -/
def lowN (x n : Int) : Int := (x % 18446744073709551616) % n
theorem lowN_bd (x : Int) {n : Int} (hn : 0 < n) : 0 ≤ lowN x n ∧ lowN x n < n := ⟨Int.emod_nonneg _ (by omega), Int.emod_lt_of_pos _ hn⟩

set_option maxHeartbeats 400000 in
theorem low_any (x n : Int) (w : World) (h1 : 0 < n) (h2 : n ≤ 4611686018427387904) :
    Calls Tryz.prog 38 #[.int .i64 x, .int .i64 n] w fun e w' => e = .returned (.int .i64 (lowN x n)) ∧ w = w' := by
  have hb := Lib.hid (lowN_bd x h1)
  have hn0 : ¬ n = 0 := by omega
  go_enter Tryz.func38, Tryz.ntmps38
  go_wp2
  go_ret
  refine ⟨ret_int ?_, rfl⟩
  have h := hb.out
  rw [u64_wrap, tmod_of_emod]
  unfold lowN at *
  generalize x % 18446744073709551616 % n = y at *
  unfold wrap64
  omega
/-- a number from 0 to below n -/
theorem low_nat (x : Int) (n : Nat) (w : World) (h1 : 0 < n) (h2 : n ≤ 1000000) :
    Calls Tryz.prog 38 #[.int .i64 x, .int .i64 (n : Int)] w fun e w' => ∃ k : Nat, k < n ∧ e = .returned (.int .i64 (k : Int)) ∧ w = w' := by
  refine (low_any x n w (by omega) (by omega)).mono fun e w' ⟨he, hw⟩ => ?_
  have hb := lowN_bd x (n := (n : Int)) (by omega)
  exact ⟨(lowN x n).toNat, by omega, by rw [he]; congr 2; omega, hw⟩
theorem low_c (x C : Int) (n : Nat) (w : World) (hC : C = (n : Int)) (h1 : 0 < n) (h2 : n ≤ 1000000) :
    Calls Tryz.prog 38 #[.int .i64 x, .int .i64 C] w fun e w' => ∃ k : Nat, k < n ∧ e = .returned (.int .i64 (k : Int)) ∧ w = w' := by
  subst hC; exact low_nat x n w h1 h2
end Go.Proofs.YtgcodlicbdaddaaGreatDoor
end
