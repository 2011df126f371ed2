/-
  How many blocks a node takes: the walk.
  A tree in memory.
-/
import Derived.Test.YtgcodlicbdaddaaGreatDoorB9
import Derived.Test.YtgcodlicbdaddaaGreatDoorB4

section
set_option linter.unusedVariables false
set_option linter.unusedSimpArgs false
namespace Go.Proofs.YtgcodlicbdaddaaGreatDoor
open Go.RowKit BigFrame
set_option maxRecDepth 100000

/-- an element of an array of cells -/
theorem run_ixW {t e : TypeId} {d : TypeDesc} {len : Nat} (ht : Tryz.prog.underlying t = some (.array len e)) (he : Tryz.prog.underlying e = some d) (hd : d.isRow = false) (hn : (Tryz.prog.info? e).map (·.size) = some 1) (w : World) (X : List Value) (k : Nat) (hk : k < len) {v : Value} (hv : X[k]? = some v) :
    (ixA t (.agg X.toArray) (.int .i64 (k : Int))).run Tryz.prog w = .ok v w := by
  have hs : (sizeOf e).run Tryz.prog w = .ok 1 w := by
    cases hq : Tryz.prog.info? e with
    | none => simp [hq] at hn
    | some i => simp [hq] at hn; simp [sizeOf, typeInfo, hq, hn]
  have h0 : (0 : Int) ≤ (k : Int) ∧ (k : Int) < (len : Int) := by omega
  have hp := run_partW he hd w X (k * 1) (v := v) (by rw [Nat.mul_one]; exact hv)
  unfold ixA Instr.index
  simp [Sem.run_bind, asIntOf, run_underlying ht, h0, hs, hk]
  rw [Nat.mul_one] at hp
  exact hp
def wrV (l : List Bool) : Value := .agg (l.map Value.bool).toArray
def nsV (l : List Nat) : Value := .agg (l.map fun n : Nat => Value.int .i64 (n : Int)).toArray
def nsC (l : List Nat) : List Value := l.map fun n : Nat => Value.int .i64 (n : Int)
theorem ldB_of (v : Value) : Instr.loadAt 73 v = ldA 73 v := rfl
theorem ixB_of (x i : Value) : Instr.index 73 x i = ixA 73 x i := rfl
theorem ldN_of (v : Value) : Instr.loadAt 162 v = ldA 162 v := rfl
theorem ixN_of (x i : Value) : Instr.index 162 x i = ixA 162 x i := rfl
theorem Tryz.sizeB162 : (Tryz.prog.info? 73).map (·.size) = some 162 := by kernel_rfl
theorem Tryz.sizeN12 : (Tryz.prog.info? 162).map (·.size) = some 12 := by kernel_rfl
theorem Tryz.size1b : (Tryz.prog.info? 4).map (·.size) = some 1 := by kernel_rfl
theorem Tryz.size1i : (Tryz.prog.info? 3).map (·.size) = some 1 := by kernel_rfl
theorem run_ixB (w : World) (l : List Bool) (k : Nat) (hk : k < 162) (hl : l.length = 162) : (ixA 73 (wrV l) (.int .i64 (k : Int))).run Tryz.prog w = .ok (.bool (l.getD k false)) w :=
  run_ixW Tryz.underlying73 Tryz.underlying4 rfl Tryz.size1b w _ k hk (by simp [List.getD, show k < l.length by omega])
theorem run_ixN (w : World) (l : List Nat) (k : Nat) (hk : k < 12) (hl : l.length = 12) : (ixA 162 (nsV l) (.int .i64 (k : Int))).run Tryz.prog w = .ok (.int .i64 ((l.getD k 0 : Nat) : Int)) w :=
  run_ixW Tryz.underlying162 Tryz.underlying3 rfl Tryz.size1i w _ k hk (by simp [List.getD, show k < l.length by omega])
theorem nsC_set (l : List Nat) (k n : Nat) : (nsC l).set k (.int .i64 ((n : Nat) : Int)) = nsC (l.set k n) := by simp [nsC, List.map_set]
section
variable {B a i : Nat} {x : Nd} {v en : Value}
def BkRel (l : List Bool) (w : World) (m s f i : Value) (wr : World) : Prop :=
  ∃ k : Nat, k ≤ 162 ∧ i = .int .i64 (k : Int) ∧ m = .int .i64 ((cntU l k : Nat) : Int) ∧ s = .int .i64 ((oneN (hitU l inS k) : Nat) : Int) ∧ f = .int .i64 ((oneN (hitU l inD k) : Nat) : Int) ∧ Vw wr 162 w.heap.size (nsC (secL l k)) ∧ Below w.heap.size w wr
def SmRel (L : List Nat) (c : Nat) (w1 : World) (m i : Value) (wr : World) : Prop := ∃ k : Nat, k ≤ 12 ∧ i = .int .i64 (k : Int) ∧ m = .int .i64 ((c + sumN (L.take k) : Nat) : Int) ∧ w1 = wr
attribute [local go_sem ↓] ldB_of ixB_of ldN_of ixN_of
set_option maxHeartbeats 2000000 in
theorem blocks_any (w : World) (h : NodeAt w B a i x v en) {b : Nat} (hok : NodeOk b x) (hb : b ≤ 900000) :
    Calls Tryz.prog 61 #[.pointer (some ⟨a, 0, none⟩)] w (Tells (.int .i64 ((x.blk : Nat) : Int)) w) := by
  have ck := h.kind
  by_cases hk2 : x.kind = 2
  · have hm := hok.most
    have cm := h.most
    rw [hk2] at ck
    obtain ⟨m, hme⟩ : ∃ m, x.most = m := ⟨_, rfl⟩
    rw [hme] at cm hm
    have hul' := Lib.hid (show ((x.blk : Nat) : Int) = (((m : Nat) : Int) + 4 - 1) / 4 by unfold Nd.blk; rw [if_pos hk2, hme]; omega)
    clear h hk2 hme hok
    go_enter Tryz.func61, Tryz.ntmps61
    go_wp2_with fail
    go_ret
    rw [hul'.out]
    exact ⟨rfl, Below.refl _ _⟩
  · have t2 : (((x.kind : Nat) : Int) == 2) = false := nat_beq_ne (b := 2) hk2
    by_cases hk3 : x.kind = 3
    · have t3 : (((x.kind : Nat) : Int) == 3) = true := by rw [hk3]; rfl
      have hul' := Lib.hid (show ((x.blk : Nat) : Int) = 1 by unfold Nd.blk; rw [if_neg hk2, if_pos hk3]; rfl)
      clear h hk2 hk3 hok
      go_enter Tryz.func61, Tryz.ntmps61
      go_wp2_with fail
      go_ret
      rw [hul'.out]
      exact ⟨rfl, Below.refl _ _⟩
    · have t3 : (((x.kind : Nat) : Int) == 3) = false := nat_beq_ne (b := 3) hk3
      obtain ⟨l, hl⟩ : ∃ l, x.wr = l := ⟨_, rfl⟩
      have hll := h.wrl
      rw [hl] at hll
      have hul' := Lib.hid (show x.blk = blkM l by unfold Nd.blk; rw [if_neg hk2, if_neg hk3, hl])
      have hlt := h.lt
      have hrow := h.row
      have hld : ∀ w', Below w.heap.size w w' → (ldA 73 (.pointer (some ⟨a, 4, none⟩))).run Tryz.prog w' = .ok (wrV l) w' := fun w' hb' => by
        have h1 := (hrow.on hb' hlt).range 4 162
        have h2 : ((ndc i x v en).drop 4).take 162 = l.map Value.bool := by
          unfold ndc
          rw [show (ndh i x v ++ (x.wr.map Value.bool ++ ndt x en)).drop 4 = x.wr.map Value.bool ++ ndt x en from rfl, hl, List.take_append_of_le_length (by simp [hll])]
          exact List.take_of_length_le (by simp [hll])
        rw [h2] at h1
        exact run_ldW 162 _ h1 (by simp [hll]) Tryz.underlying73 rfl Tryz.sizeB162
      have hld' := Lib.hid hld
      have hll' := Lib.hid hll
      obtain ⟨w0, hw0⟩ : ∃ w0, w.alloc (.cells #[.int .i64 0, .int .i64 0, .int .i64 0, .int .i64 0, .int .i64 0, .int .i64 0, .int .i64 0, .int .i64 0, .int .i64 0, .int .i64 0, .int .i64 0, .int .i64 0] 162) = w0 := ⟨_, rfl⟩
      have hb0 := Lib.hid (show Below w.heap.size w w0 by rw [← hw0]; exact (Below.refl w.heap.size w).alloc (Nat.le_refl _) _)
      have V0 := Lib.hid (show Vw w0 162 w.heap.size (nsC (secL l 0)) by rw [← hw0]; exact Vw.alloc w (nsC (secL l 0)) 162)
      have hld0 := hld _ hb0.out
      clear h hk2 hk3 hl hrow hld hll hok hb
      go_enter Tryz.func61, Tryz.ntmps61
      go_wp2_with fail
      go_loopg [3, 4, 5, 33] 162 (fun g m s f i wr => ∃ k, k + g = 162 ∧ i = .int .i64 (k : Int) ∧ m = .int .i64 ((cntU l k : Nat) : Int) ∧ s = .int .i64 ((oneN (hitU l inS k) : Nat) : Int) ∧ f = .int .i64 ((oneN (hitU l inD k) : Nat) : Int) ∧ Vw wr 162 w.heap.size (nsC (secL l k)) ∧ Below w.heap.size w wr)
      case atStart => exact ⟨0, rfl, rfl, rfl, rfl, rfl, V0.out, hb0.out⟩
      case round =>
        obtain ⟨k, hkg, rfl, rfl, rfl, rfl, hV, hB⟩ := hrel
        have hV' := Lib.hid hV
        have hB' := Lib.hid hB
        clear hV hB
        by_cases hlt : k < 162
        · obtain ⟨g, rfl⟩ : ∃ g, gk = g + 1 := ⟨gk - 1, by omega⟩
          have t0 : decide ((k : Int) < 162) = true := decide_eq_true (by omega)
          have hix := run_ixB wr l k hlt hll'.out
          have hcl := Lib.hid (cntU_le l k)
          have e1 := Lib.hid (show cntU l (k + 1) = cntU l k + oneN (l.getD k false) from rfl)
          have e2 := Lib.hid (show ∀ p, hitU l p (k + 1) = (hitU l p k || (l.getD k false && p k)) from fun _ => rfl)
          cases hb : l.getD k false with
          | false =>
            rw [hb] at hix
            have e3 := Lib.hid (secL_not hb)
            have hb' := Lib.hid hb
            clear hb
            go_wp2_with fail
            go_roundg g
            case measure => omega
            case rel => exact ⟨k + 1, by omega, by go_num, by rw [e1.out, hb'.out]; rfl, by rw [e2.out, hb'.out, Bool.false_and, Bool.or_false], by rw [e2.out, hb'.out, Bool.false_and, Bool.or_false], by rw [e3.out]; exact hV'.out, hB'.out⟩
          | true =>
            rw [hb] at hix
            have hb' := Lib.hid hb
            obtain ⟨c, hc⟩ : ∃ c, cntU l k = c := ⟨_, rfl⟩
            have hc' := Lib.hid hc
            have hcc : c ≤ 162 := by rw [← hc]; have := hcl.out; omega
            simp only [hc]
            by_cases h6 : k < 6
            · have hp := Lib.hid (show placeZ (k : Int) = .tuple #[.int .i64 0, .int .i64 (k : Int), .int .i64 0] by unfold placeZ; rw [if_neg (by omega), if_pos (by omega)])
              have e3 := Lib.hid (secL_low (l := l) (show k < 18 by omega))
              clear hb hc
              go_wp2_with (go_at_call 117; refine (place_any _ _).mono ?_; rw [hp.out]; rintro e w4 ⟨rfl, rfl⟩)
              go_roundg g
              case measure => omega
              case rel =>
                refine ⟨k + 1, by omega, by go_num, ?_, ?_, ?_, by rw [e3.out]; exact hV'.out, hB'.out⟩
                · rw [e1.out, hb'.out, hc'.out]; rfl
                · rw [e2.out, show inS k = false by unfold inS; rw [decide_eq_false (by omega)]; rfl, Bool.and_false, Bool.or_false]
                · rw [e2.out, show inD k = false by unfold inD; rw [decide_eq_false (by omega)], Bool.and_false, Bool.or_false]
            · by_cases h18 : k < 18
              · have hp := Lib.hid (show placeZ (k : Int) = .tuple #[.int .i64 1, .int .i64 ((k : Int) - 6), .int .i64 0] by unfold placeZ; rw [if_neg (by omega), if_neg (by omega), if_pos (by omega)])
                have e3 := Lib.hid (secL_low (l := l) (show k < 18 by omega))
                clear hb hc
                go_wp2_with (go_at_call 117; refine (place_any _ _).mono ?_; rw [hp.out]; rintro e w4 ⟨rfl, rfl⟩)
                go_roundg g
                case measure => omega
                case rel =>
                  refine ⟨k + 1, by omega, by go_num, ?_, ?_, ?_, by rw [e3.out]; exact hV'.out, hB'.out⟩
                  · rw [e1.out, hb'.out, hc'.out]; rfl
                  · rw [e2.out, hb'.out, show inS k = true by unfold inS; rw [decide_eq_true (by omega), decide_eq_true (by omega)]; rfl, Bool.and_true, Bool.or_true]; rfl
                  · rw [e2.out, show inD k = false by unfold inD; rw [decide_eq_false (by omega)], Bool.and_false, Bool.or_false]
              · obtain ⟨q, hq⟩ : ∃ q, (k - 18) / 12 = q := ⟨_, rfl⟩
                have hq12 : q < 12 := by omega
                have hp := Lib.hid (show placeZ (k : Int) = .tuple #[.int .i64 2, .int .i64 ((q : Nat) : Int), .int .i64 (((k : Int) - 18) % 12)] by unfold placeZ; rw [if_neg (by omega), if_neg (by omega), if_neg (by omega), show ((k : Int) - 18) / 12 = ((q : Nat) : Int) by omega])
                have e3 := Lib.hid (show secL l (k + 1) = (secL l k).set q 1 by rw [← hq]; exact secL_set hb (by omega) hlt)
                have c0 := hV'.out.cell (k := q) (v := .int .i64 ((oneN (hitU l (inP q) k) : Nat) : Int)) (by unfold nsC; rw [List.getElem?_map, secL_get l hq12]; rfl)
                have f0 := hV'.out.frozen q
                clear hb hc hq
                go_wp2_with (go_at_call 117; refine (place_any _ _).mono ?_; rw [hp.out]; rintro e w4 ⟨rfl, rfl⟩)
                go_roundg g
                case measure => omega
                case rel =>
                  refine ⟨k + 1, by omega, by go_num, ?_, ?_, ?_, ?_, hB'.out.setCell (p := ⟨w.heap.size, q, none⟩) (Nat.le_refl _) _⟩
                  · rw [e1.out, hb'.out, hc'.out]; rfl
                  · rw [e2.out, show inS k = false by unfold inS; rw [decide_eq_false (show ¬ k < 18 by omega), Bool.and_false], Bool.and_false, Bool.or_false]
                  · rw [e2.out, hb'.out, show inD k = true by unfold inD; rw [decide_eq_true (by omega)], Bool.and_true, Bool.or_true]; rfl
                  · rw [e3.out, ← nsC_set]
                    exact hV'.out.set q _
        · have hk : k = 162 := by omega
          subst hk
          have hld2 := run_ldW (t := 162) 12 _ hV'.out.whole (by simp [nsC, secL_length]) Tryz.underlying162 rfl Tryz.sizeN12
          obtain ⟨L, hL⟩ : ∃ L, secL l 162 = L := ⟨_, rfl⟩
          have hLl := Lib.hid (show L.length = 12 by rw [← hL]; exact secL_length _ _)
          have hL1 := Lib.hid (show ∀ x ∈ L, x ≤ 1 by rw [← hL]; exact secL_le _ _)
          rw [hL] at hld2
          have hld3 : (ldA 162 (.pointer (some ⟨w.heap.size, 0, none⟩))).run Tryz.prog wr = .ok (nsV L) wr := hld2
          clear hld2
          obtain ⟨c, hc⟩ : ∃ c, cntU l 162 = c := ⟨_, rfl⟩
          have hcl := Lib.hid (show c ≤ 162 by rw [← hc]; exact cntU_le l 162)
          obtain ⟨s1, hs1⟩ : ∃ c, oneN (hitU l inS 162) = c := ⟨_, rfl⟩
          obtain ⟨f1, hf1⟩ : ∃ c, oneN (hitU l inD 162) = c := ⟨_, rfl⟩
          have hs1l := Lib.hid (show s1 ≤ 1 by rw [← hs1]; exact oneN_le _)
          have hf1l := Lib.hid (show f1 ≤ 1 by rw [← hf1]; exact oneN_le _)
          have hfin := Lib.hid (show x.blk = c + sumN L + s1 + f1 by rw [hul'.out, ← hc, ← hs1, ← hf1, ← hL]; rfl)
          simp only [hc, hs1, hf1]
          clear hc hs1 hf1 hL
          go_wp2_with fail
          go_loopg [3, 56] 12 (fun g m i w2 => ∃ k, k + g = 12 ∧ i = .int .i64 (k : Int) ∧ m = .int .i64 ((c + sumN (L.take k) : Nat) : Int) ∧ wr = w2)
          case atStart => exact ⟨0, rfl, rfl, by simp [sumN], rfl⟩
          case round =>
            obtain ⟨k, hkg, rfl, rfl, rfl⟩ := hrel
            have hsl : sumN (L.take k) ≤ 12 := by
              have h1 := sumN_le (L.take k) fun x hx => hL1.out x (List.mem_of_mem_take hx)
              have h2 := List.length_take (i := k) (l := L)
              have h3 := hLl.out
              omega
            obtain ⟨s2, hs2⟩ : ∃ n, c + sumN (L.take k) = n := ⟨_, rfl⟩
            have hs2l : s2 ≤ 200 := by have := hcl.out; omega
            by_cases hlt : k < 12
            · obtain ⟨g, rfl⟩ : ∃ g, gk = g + 1 := ⟨gk - 1, by omega⟩
              have t0 : decide ((k : Int) < 12) = true := decide_eq_true (by omega)
              have hix := run_ixN wr L k hlt hLl.out
              obtain ⟨z, hz⟩ : ∃ z, L.getD k 0 = z := ⟨_, rfl⟩
              have hz1 : z ≤ 1 := by
                rw [← hz, List.getD, List.getElem?_eq_getElem (by rw [hLl.out]; exact hlt), Option.getD_some]
                exact hL1.out _ (List.getElem_mem _)
              rw [hz] at hix
              have hnx := Lib.hid (show c + sumN (L.take (k + 1)) = s2 + z by rw [sumN_take L k (by rw [hLl.out]; exact hlt), hz]; omega)
              simp only [hs2]
              clear hs2 hz hsl
              go_wp2_with fail
              go_roundg g
              case measure => omega
              case rel => exact ⟨k + 1, by omega, by go_num, by rw [hnx.out]; go_num, rfl⟩
            · have hk : k = 12 := by omega
              subst hk
              have hall := Lib.hid (show s2 = c + sumN L by rw [← hs2, List.take_of_length_le (by rw [hLl.out]; exact Nat.le_refl _)])
              have h1 := hs1l.out
              have h2 := hf1l.out
              simp only [hs2]
              clear hs2 hsl
              go_wp2_with fail
              go_ret
              rw [hfin.out, ← hall.out]
              exact ⟨by go_num, hB'.out⟩
end
end Go.Proofs.YtgcodlicbdaddaaGreatDoor
end

section
set_option linter.unusedVariables false
set_option linter.unusedSimpArgs false
namespace Go.Proofs.YtgcodlicbdaddaaGreatDoor
open Go.RowKit BigFrame
set_option maxRecDepth 100000

/-- where a tree lies: itself, its map, its table, its nodes, their bytes, their entries; what each of its blocks is -/
structure Ad where
  t : Nat
  m : Nat
  f : Nat
  nd : Nat → Nat
  da : Nat → Value
  en : Nat → Value
  own : Nat → Option Nat
def ptrN (A : Ad) (i : Nat) : Value := .pointer (some ⟨A.nd i, 0, none⟩)
def keyN (i : Nat) : Lit := .int .i64 ((i : Nat) : Int)
def nodesL (A : Ad) (o : Nat → Option Nd) (n : Nat) : List (Lit × Value) := (List.range n).filterMap fun i => (o i).map fun _ => (keyN i, ptrN A i)
def treeC (A : Ad) (s : Tr) : List Value := [.map (some A.m), .int .i64 ((s.nd.length : Nat) - 1 : Int), .pointer (some ⟨A.f, 0, none⟩)]
structure TreeAt (w : World) (B : Nat) (A : Ad) (s : Tr) : Prop where
  tb : Vw w 72 A.t (treeC A s)
  tab : TabAt w A.f s.tb
  map : MapAt 3 w A.m (nodesL A s.opt s.nd.length)
  node : ∀ i x, s.opt i = some x → NodeAt w B (A.nd i) i x (A.da i) (A.en i)
  rt : A.own A.t = some 0
  rm : A.own A.m = some 1
  rf : A.own A.f = some 2
  rn : ∀ i x, s.opt i = some x → A.own (A.nd i) = some (3 * i + 3)
  rd : ∀ i x, s.opt i = some x → ∀ g, (A.da i).ownBlock = some g → A.own g = some (3 * i + 4)
  re : ∀ i x, s.opt i = some x → ∀ b, A.en i = .map (some b) → A.own b = some (3 * i + 5)
  hi : ∀ b r, A.own b = some r → B ≤ b ∧ b < w.heap.size

/-- from w to w' nothing has turned but what is the tree's, and new ones -/
structure TStep (w : World) (A : Ad) (w' : World) (A' : Ad) : Prop where
  os : w'.os = w.os
  tape : w'.tape = w.tape
  output : w'.output = w.output
  size : w.heap.size ≤ w'.heap.size
  block : ∀ k, k < w.heap.size → A.own k = none → w'.heap[k]? = w.heap[k]?
  ext : ∀ k, k < w.heap.size → A'.own k = A.own k
  t : A'.t = A.t
theorem TStep.refl (w : World) (A : Ad) : TStep w A w A := ⟨rfl, rfl, rfl, Nat.le_refl _, fun _ _ _ => rfl, fun _ _ => rfl, rfl⟩
theorem TStep.trans {u v w : World} {A A' A'' : Ad} (h : TStep u A v A') (k : TStep v A' w A'') : TStep u A w A'' :=
  ⟨k.os.trans h.os, k.tape.trans h.tape, k.output.trans h.output, Nat.le_trans h.size k.size, fun i hi hn =>
    (k.block i (Nat.lt_of_lt_of_le hi h.size) ((h.ext i hi).trans hn)).trans (h.block i hi hn), fun i hi => (k.ext i (Nat.lt_of_lt_of_le hi h.size)).trans (h.ext i hi), k.t.trans h.t⟩
theorem TStep.of_below {w w' : World} (A : Ad) (h : Below w.heap.size w w') : TStep w A w' A := ⟨h.os, h.tape, h.output, h.size, fun k hk _ => h.block k hk, fun _ _ => rfl, rfl⟩
theorem TStep.below {w w' : World} {A A' : Ad} {B : Nat} {s : Tr} (h : TStep w A w' A') (hA : TreeAt w B A s) (hB : B ≤ w.heap.size) : Below B w w' :=
  ⟨h.os, h.tape, h.output, h.size, fun k hk => h.block k (by omega) (by
    cases e : A.own k with
    | none => rfl
    | some r => have := (hA.hi k r e).1; omega)⟩

section
variable {w w' : World} {B : Nat} {A : Ad} {s : Tr}
/-- it stays, if its blocks do -/
theorem TreeAt.keep (h : TreeAt w B A s) (hs : w.heap.size ≤ w'.heap.size) (e : ∀ b r, A.own b = some r → w'.heap[b]? = w.heap[b]?) : TreeAt w' B A s where
  tb := by have := h.tb; unfold Vw at this ⊢; rw [e _ _ h.rt]; exact this
  tab := ⟨by have := h.tab.row; unfold Vw at this ⊢; rw [e _ _ h.rf]; exact this, h.tab.len⟩
  map := h.map.blk (e _ _ h.rm)
  node := fun i x hx => (h.node i x hx).blk (e _ _ (h.rn i x hx)) (fun g eg => e _ _ (h.rd i x hx g eg)) (fun b eb => e _ _ (h.re i x hx b eb))
  rt := h.rt
  rm := h.rm
  rf := h.rf
  rn := h.rn
  rd := h.rd
  re := h.re
  hi := fun b r hb => ⟨(h.hi b r hb).1, Nat.lt_of_lt_of_le (h.hi b r hb).2 hs⟩
theorem TreeAt.below (h : TreeAt w B A s) (hb : Below w.heap.size w w') : TreeAt w' B A s := h.keep hb.size fun b r e => hb.block b (h.hi b r e).2
theorem TreeAt.drew (h : TreeAt w B A s) : TreeAt w.drew B A s := h.keep (Nat.le_refl _) fun _ _ _ => rfl
theorem TreeAt.drewN (h : TreeAt w B A s) (n : Nat) : TreeAt (w.drewN n) B A s := h.keep (Nat.le_refl _) fun _ _ _ => rfl
theorem TreeAt.maps (h : TreeAt w B A s) : w.cell? ⟨A.t, 0, none⟩ = some (.map (some A.m)) := h.tb.cell (k := 0) rfl
theorem TreeAt.made (h : TreeAt w B A s) : w.cell? ⟨A.t, 1, none⟩ = some (.int .i64 ((s.nd.length : Nat) - 1 : Int)) := h.tb.cell (k := 1) rfl
theorem TreeAt.files (h : TreeAt w B A s) : w.cell? ⟨A.t, 2, none⟩ = some (.pointer (some ⟨A.f, 0, none⟩)) := h.tb.cell (k := 2) rfl
end

/-! ### A node by its number -/
theorem same_keyN (i j : Nat) : (keyN i).sameKey (keyN j) = decide (i = j) := by
  show decide (IntKind.i64 = IntKind.i64 ∧ ((i : Nat) : Int) = ((j : Nat) : Int)) = decide (i = j)
  exact decide_eq_decide.2 ⟨fun h => by omega, fun h => ⟨rfl, by omega⟩⟩
theorem fnd_nodes (A : Ad) (o : Nat → Option Nd) (j : Nat) : ∀ n, fndL (nodesL A o n) (keyN j) = if j < n ∧ (o j).isSome = true then some (ptrN A j) else none
  | 0 => by rw [if_neg (by omega)]; rfl
  | n + 1 => by
    have ih := fnd_nodes A o j n
    unfold nodesL fndL at ih ⊢
    rw [List.range_succ, List.filterMap_append, List.find?_append, Option.map_or, ih]
    by_cases h1 : j < n ∧ (o j).isSome = true
    · rw [if_pos h1, if_pos ⟨by omega, h1.2⟩]; rfl
    · rw [if_neg h1, Option.none_or]
      cases ho : o n with
      | none =>
        rw [if_neg (by
          rintro ⟨h2, h3⟩
          by_cases e : j = n
          · subst e; rw [ho] at h3; cases h3
          · exact h1 ⟨by omega, h3⟩)]
        simp [List.filterMap, ho]
      | some x =>
        have e1 : List.filterMap (fun i => (o i).map fun _ => (keyN i, ptrN A i)) [n] = [(keyN n, ptrN A n)] := by simp [List.filterMap, ho]
        rw [e1, List.find?_cons]
        have e2 : (keyN n).sameKey (keyN j) = decide (n = j) := same_keyN n j
        simp only [e2]
        by_cases e : n = j
        · subst e
          rw [decide_eq_true rfl, if_pos ⟨by omega, by rw [ho]; rfl⟩]
          rfl
        · rw [decide_eq_false e, if_neg (by
            rintro ⟨h2, h3⟩
            exact h1 ⟨by omega, h3⟩)]
          rfl
theorem keyN_of (i : Nat) (h : i < 1000000000) : keyOf Tryz.prog 3 (.int .i64 ((i : Nat) : Int)) = some (keyN i) := Maps.keyOf_int_mk Tryz.underlying3 (WalkArith.wf_i64 (by omega))
theorem zero_ptr (w : World) : (zeroValue 77).run Tryz.prog w = .ok (.pointer none) w := by kernel_rfl
theorem zero_int (w : World) : (zeroValue 3).run Tryz.prog w = .ok (.int .i64 0) w := by kernel_rfl
/-- a node's pointer, or none -/
def ptrO (A : Ad) (s : Tr) (i : Nat) : Value := if (s.opt i).isSome = true then ptrN A i else .pointer none
theorem TreeAt.get {w : World} {B : Nat} {A : Ad} {s : Tr} (h : TreeAt w B A s) (i : Nat) (hi : i < 1000000000) :
    (Instr.lookup 68 (.map (some A.m)) (.int .i64 ((i : Nat) : Int)) false).run Tryz.prog w = .ok (ptrO A s i) w := by
  have := h.map.look law_int Tryz.underlying68 (zero_ptr w) (keyN_of i hi)
  rw [fnd_nodes] at this
  rw [this]
  unfold ptrO
  by_cases e : (s.opt i).isSome = true
  · obtain ⟨x, hx⟩ := Option.isSome_iff_exists.1 e
    rw [if_pos e, if_pos ⟨Tr.opt_lt hx, e⟩]
    rfl
  · rw [if_neg e, if_neg fun h => e h.2]
    rfl
end Go.Proofs.YtgcodlicbdaddaaGreatDoor
end
