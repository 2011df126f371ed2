/-
  Bytes made with room behind them; a row known whole as a slice of one's own; an append where there is room.
  What a call has turned that writes over one row alone, and makes new ones.
  What is written over an answer, and beyond it.
  Rows of the call's own, and answers, kept side by side from call to call.
  What the laws share over bytes: are two lists the same?
  Two answers are the same.
  Two lists of bytes' lists are the same.
  So many bytes of a number.
  Are two lists of integers the same (where they are)?
  What every program answers that is one.
  What is wanted: a list of sectors' bytes of the law's own, beside the disk.
-/
import Derived.Test.YtnfaeejeipbciaaB6
import Derived.Test.YtnfaeejeipbciaaB1
import Derived.Test.YtnfaeejeipbciaaB3
import Derived.Test.YtnfaeejeipbciaaB8
import Derived.Deep.LoopGhost
import Derived.Deep.RegionWith

section
set_option linter.unusedVariables false
set_option linter.unusedSimpArgs false
namespace Go.Proofs.Ytnfaeejeipbciaa
open Go.RowKit BigFrame

theorem wpList_make_cap_bytes {w : World} {ops : Array Oper} {rest : List Oper} {o : Oper} {a : Act} {Q : Exit → Act → World → Prop} (hg : o.guard = none) (l c : Operand) (hop : o.op = Op.makeSlice 54 l c)
    (m n : Nat) (C : Int) (hl : a.eval l = .int .i64 (m : Int)) (hc : a.eval c = .int .i64 C) (hC : C = (n : Int)) (hmn : m ≤ n) (hn : n ≤ 1000000)
    (hK : ∀ g w1, Hid (Row w1 g (zs n)) → w.heap.size ≤ g → Below w.heap.size w w1 → wpList Try.prog ops Q rest (a.put o.dst (.slice (some ⟨g, 0, none⟩) m n)) w1) :
    wpList Try.prog ops Q (o :: rest) a w := by
  obtain ⟨i, hi, hz0, hz1, hz2⟩ := info_parts Try.infoB
  subst hC
  refine wpList_plain hg fun K hK' => ?_
  have hrun := run_make (P := Try.prog) w 54 5 i (.int .u8 0) Try.underlying54 hi hz0 .i64 .i64 (m : Int) (n : Int) (by omega) (by omega) (by rw [hz2]; omega) (by omega)
  simp only [Int.toNat_natCast, hz1, Nat.mul_one] at hrun
  have e : madeCells (Value.int .u8 0).cells n = (bv (zs n)).toArray := made_bytes n
  rw [e] at hrun
  unfold Oper.wp
  simp [execOp, hop, hl, hc, hrun, Result.andThen]
  exact hK' _ _ (hK _ _ (heap_alloc_new w _) (Nat.le_refl _) ((Below.refl _ _).alloc (Nat.le_refl _) _))

/-- the first k of a row, as a slice of the call's own -/
theorem Row.own {w : World} {g base k cap : Nat} {L : List Nat} (h : Row w g L) (hc : L.length = cap) (hcm : cap ≤ 1000000) (hk : k ≤ cap) (hb : base ≤ g) : OwnB w base (.slice (some ⟨g, 0, none⟩) k cap) (L.take k) := by
  refine ⟨by rw [bv_length, Nat.mul_one], .inr ⟨g, cap, (bv L).toArray, by rw [List.length_take, Nat.min_eq_left (by omega)], hb, h, by rw [List.length_take]; omega, by unfold maxLen; omega, by simp [bv_length, hc], ?_⟩⟩
  rw [Nat.mul_one, List.length_take, Nat.min_eq_left (by omega), bv_take]

theorem wpList_append_room {w : World} {ops : Array Oper} {rest : List Oper} {o : Oper} {a : Act} {Q : Exit → Act → World → Prop} (hgd : o.guard = none) (s x : Operand)
    (ho : o.op = .call { callee := .builtin .append, args := #[s, x], argTypes := #[54, 54] })
    (g k cap : Nat) (L : List Nat) (hs : a.eval s = .slice (some ⟨g, 0, none⟩) k cap) (hrow : Row w g L) (hcap : L.length = cap) (hcm : cap ≤ 1000000)
    (sp : Option Addr) (n sCap : Nat) (m : List Nat) (hx : a.eval x = .slice sp n sCap) (hm : m.length = n) (hsrc : BAt w sp m) (hnil : sp = none → sCap = 0) (hroom : k + n ≤ cap)
    (h : ∀ w', Hid (Row w' g (splice L k m)) → (∀ B, B ≤ g → Below B w w') → wpList Try.prog ops Q rest (a.put o.dst (.slice (some ⟨g, 0, none⟩) (k + n) cap)) w') : wpList Try.prog ops Q (o :: rest) a w := by
  obtain ⟨i, hi, hz0, hz1, hz2⟩ := info_parts Try.infoB
  subst hm
  have own := hrow.own (base := 0) hcap hcm (show k ≤ cap by omega) (Nat.zero_le _)
  cases sp with
  | none =>
    obtain rfl := hnil rfl
    have hm : m = [] := by
      rcases hsrc with h | ⟨b, off, e, _⟩
      · exact List.eq_nil_of_length_eq_zero h
      · cases e
    subst hm
    refine wpList_append_own_none hgd s x _ ho 0 5 i 1 Try.underlying54 hi _ _ _ hs own hx (h _ ?_ (fun B _ => Below.refl _ _))
    show Row w g (splice L k [])
    unfold splice
    simpa using hrow
  | some ad =>
    refine wpList_plain hgd fun K hK => ?_
    have hrun := run_append_room (P := Try.prog) w 54 o.type 5 i Try.underlying54 hi g k cap (bv L).toArray hrow ad m.length sCap (bv m) (by rw [bv_length, hz1, Nat.mul_one]) (by
      intro j u hu
      obtain ⟨hj, rfl⟩ := bv_at hu
      obtain ⟨b, off, e⟩ := hsrc.addr (by omega)
      obtain rfl := Option.some.inj e
      rw [addr_add]; exact hsrc.cell hj) (bv_one m) hroom (by simp [bv_length, hz1]; omega)
    have e : ((bv L).toArray.toList.take (k * i.size) ++ bv m ++ (bv L).toArray.toList.drop (k * i.size + (bv m).length)) = bv (splice L k m) := by
      rw [hz1, Nat.mul_one, ← bv_splice]
      simp [splice]
    rw [e] at hrun
    unfold Oper.wp
    simp [execOp, ho, resolve, invoke, builtin, hs, hx, hrun, Result.andThen]
    refine hK _ _ (h _ ?_ (fun B hB => below_setRow (Below.refl _ _) hB _))
    exact setRow_heap w g _ _ _ _ hrow
end Go.Proofs.Ytnfaeejeipbciaa
end

section
set_option linter.unusedVariables false
set_option linter.unusedSimpArgs false
namespace Go.Proofs.Ytnfaeejeipbciaa
open Go.RowKit BigFrame

theorem grownBy_trans {a b c : World} {r : Option Nat} (h : a.grownBy b r) (k : b.grownBy c r) : a.grownBy c r :=
  ⟨k.os.trans h.os, k.tape.trans h.tape, k.output.trans h.output, Nat.le_trans h.size k.size, fun i hi hr => (k.block i (Nat.lt_of_lt_of_le hi h.size) hr).trans (h.block i hi hr)⟩
theorem grownBy_setCell (w : World) (g k : Nat) (v : Value) : w.grownBy (w.setCell ⟨g, k, none⟩ v) (some g) :=
  ⟨rfl, rfl, rfl, by simp [World.setCell], fun i _ hr => Below.heap_setCell _ _ _ _ (fun e => hr (by rw [e]))⟩
theorem grownBy_below {w w' : World} {r : Option Nat} {B : Nat} (h : w.grownBy w' r) (hB : B ≤ w.heap.size) (hr : ∀ k, r = some k → B ≤ k) : Below B w w' := (Below.refl _ _).grown h hB hr
def OverPost (r : Option Nat) (w : World) (e : Ending) (w' : World) : Prop := e = .returned (.tuple #[]) ∧ w.grownBy w' r
end Go.Proofs.Ytnfaeejeipbciaa
end

section
set_option linter.unusedVariables false
set_option linter.unusedSimpArgs false
namespace Go.Proofs.Ytnfaeejeipbciaa
open Go.RowKit BigFrame

theorem Row.grown {w w' : World} {r : Option Nat} {g : Nat} {l : List Nat} (h : Row w g l) (hg : w.grownBy w' r) (hr : some g ≠ r) : Row w' g l := by
  unfold Row; rw [hg.block g h.lt hr]; exact h

def OverRel (g n : Nat) (w : World) (i : Value) (wr : World) : Prop :=
  ∃ (k : Nat) (L : List Nat), k ≤ n ∧ i = .int .i64 k ∧ Row wr g L ∧ L.length = n ∧ w.grownBy wr (some g)

set_option maxHeartbeats 400000 in
theorem over_row (g n : Nat) (L : List Nat) (w : World) (hn : L.length = n) (hl : n ≤ 100000) (hr : Row w g L) :
    Calls Try.prog 31 #[.slice (some ⟨g, 0, none⟩) n n] w (OverPost (some g) w) := by
  have hn' := Lib.hid hn
  have hr' := Lib.hid hr
  clear hn hr
  go_enter Try.func31, Try.ntmps31
  go_wp2_with fail
  go_loopw [2] (fun i wr => OverRel g n w i wr) (fun i _ => n - (intOf i).toNat)
  case atStart => exact ⟨0, L, by omega, rfl, hr'.out, hn'.out, World.grownBy.refl _ _⟩
  case round =>
    obtain ⟨k, M, hk, rfl, hR, hM, hB⟩ := hrel
    by_cases hlt : k < n
    · have c1 := hR.cell (k := k) (by omega)
      have c2 := hR.frozen k
      have hend := Lib.hid (show OverRel g n w (.int .i64 ((k : Int) + 1)) (wr.setCell ⟨g, k, none⟩ (.int .u8 238)) from ⟨k + 1, M.set k 238, by omega, by go_num, hR.set k 238, by rw [List.length_set, hM], grownBy_trans hB (grownBy_setCell _ _ _ _)⟩)
      clear hR hB hM
      go_wp2_with fail
      exact ⟨hend.out, by simp [intOf]; omega⟩
    · have e1 : (bv [238]).toArray = #[Value.int .u8 238] := rfl
      have hb1 := (Below.refl wr.heap.size wr).alloc (Nat.le_refl _) (.cells (bv [238]).toArray 5)
      have hO := (hR.on hb1 hR.lt).own (base := g) (k := n) hM (by omega) (Nat.le_refl _) (Nat.le_refl _)
      have hN := (row_alloc wr [238]).bat
      have hlen : (M.take n).length = n := by rw [List.length_take, hM, Nat.min_self]
      have hz : g ≤ (wr.alloc (.cells (bv [238]).toArray 5)).heap.size := by have := hR.lt; simp; omega
      have hBB : w.grownBy (wr.alloc (.cells (bv [238]).toArray 5)) (some g) := grownBy_trans hB (World.grownBy_alloc _ _ _)
      rw [e1] at hO hN hz hBB
      have hO' := Lib.hid hO
      have hN' := Lib.hid hN
      have hz' := Lib.hid hz
      have hB' := Lib.hid hBB
      have hlen' := Lib.hid hlen
      clear hR hB hO hN hb1 e1 hBB hM hlen hz
      go_wp2_with (at_builtin; refine wpList_append_bytes rfl (.tmp 12) (.tmp 13) rfl g (.slice (some ⟨g, 0, none⟩) n n) (M.take n) rfl hO'.out _ 1 1 [238] rfl rfl hN'.out (by simp) (by rw [hlen'.out]; omega) hz'.out ?_)
      intro v' w' _ hg2 _
      have hend := Lib.hid (grownBy_trans hB'.out hg2)
      clear hg2
      go_wp2_with fail
      go_end0
      exact ⟨rfl, hend.out⟩
theorem over_nil (w : World) : Calls Try.prog 31 #[.slice none 0 0] w (OverPost none w) := by
  have e1 : (bv [238]).toArray = #[Value.int .u8 238] := rfl
  have hN := (row_alloc w [238]).bat
  have hB := World.grownBy_alloc w (.cells (bv [238]).toArray 5) none
  rw [e1] at hN hB
  have hN' := Lib.hid hN
  have hB' := Lib.hid hB
  clear e1 hN hB
  go_enter Try.func31, Try.ntmps31
  go_wp2_with fail
  refine wp_loop_rounds 1 ?_
  rw [rounds_succ]
  go_wp2_with (at_builtin; refine wpList_append_bytes rfl (.tmp 12) (.tmp 13) rfl w.heap.size (.slice none 0 0) [] rfl (OwnB.nil _ _) _ 1 1 [238] rfl rfl hN'.out (by simp) (by simp) (by simp) ?_)
  intro v' w' _ hg2 _
  have hend := Lib.hid (grownBy_trans hB'.out hg2)
  clear hg2
  go_wp2_with fail
  go_end0
  exact ⟨rfl, hend.out⟩

end Go.Proofs.Ytnfaeejeipbciaa
end

section
set_option linter.unusedVariables false
set_option linter.unusedSimpArgs false
namespace Go.Proofs.Ytnfaeejeipbciaa
open Go.RowKit

/-- since w0 nothing that was there has turned; and these rows stand -/
def Bag (w0 w : World) : List (Nat × List Nat) → Prop
  | [] => Below w0.heap.size w0 w
  | p :: R => (w0.heap.size ≤ p.1 ∧ Row w p.1 p.2) ∧ Bag w0 w R
theorem Bag.below {w0 w : World} : ∀ {R : List (Nat × List Nat)}, Bag w0 w R → Below w0.heap.size w0 w
  | [], h => h
  | _ :: _, h => Bag.below h.2
theorem Bag.on {w0 w w' : World} (hb : Below w.heap.size w w') : ∀ {R : List (Nat × List Nat)}, Bag w0 w R → Bag w0 w' R
  | [], h => Below.trans h (hb.mono h.size)
  | _ :: _, h => ⟨⟨h.1.1, h.1.2.on hb h.1.2.lt⟩, Bag.on hb h.2⟩
theorem Bag.add {w0 w w' : World} {g : Nat} {l : List Nat} {R : List (Nat × List Nat)} (h : Bag w0 w R) (hb : Below w.heap.size w w') (hg : w.heap.size ≤ g) (hr : Row w' g l) : Bag w0 w' ((g, l) :: R) :=
  ⟨⟨Nat.le_trans h.below.size hg, hr⟩, Bag.on hb h⟩
theorem Bag.start (w : World) : Bag w w [] := Below.refl _ _
theorem Bag.r0 {w0 w : World} {g : Nat} {l : List Nat} {R : List (Nat × List Nat)} (h : Bag w0 w ((g, l) :: R)) : Row w g l := h.1.2
theorem Bag.r1 {w0 w : World} {g : Nat} {l : List Nat} {p : Nat × List Nat} {R : List (Nat × List Nat)} (h : Bag w0 w (p :: (g, l) :: R)) : Row w g l := h.2.1.2
theorem Bag.r2 {w0 w : World} {g : Nat} {l : List Nat} {p q : Nat × List Nat} {R : List (Nat × List Nat)} (h : Bag w0 w (p :: q :: (g, l) :: R)) : Row w g l := h.2.2.1.2
theorem Bag.r3 {w0 w : World} {g : Nat} {l : List Nat} {p q r : Nat × List Nat} {R : List (Nat × List Nat)} (h : Bag w0 w (p :: q :: r :: (g, l) :: R)) : Row w g l := h.2.2.2.1.2
theorem Bag.r4 {w0 w : World} {g : Nat} {l : List Nat} {p q r s : Nat × List Nat} {R : List (Nat × List Nat)} (h : Bag w0 w (p :: q :: r :: s :: (g, l) :: R)) : Row w g l := h.2.2.2.2.1.2
theorem Bag.arg {w0 w : World} {a : Option Addr} {l : List Nat} {R : List (Nat × List Nat)} (h : Bag w0 w R) (hx : BAt w0 a l) : BAt w a l := hx.on h.below (Nat.le_refl _)
theorem Bag.low {w0 w w' : World} {R : List (Nat × List Nat)} (h : Bag w0 w R) (hb : Below w.heap.size w w') : Below w0.heap.size w0 w' := h.below.trans (hb.mono h.below.size)
theorem Bag.grown2 {w0 w w' : World} {g1 g2 M : Nat} {L1 L2 : List Nat} {r : Option Nat} (h : Bag w0 w [(g2, L2), (g1, L1)]) (hg : w.grownBy w' r) (h1 : g1 < M) (h2 : g2 < M) (hM : w0.heap.size ≤ M) (hr : ∀ k, r = some k → M ≤ k) : Bag w0 w' [(g2, L2), (g1, L1)] :=
  ⟨⟨h.1.1, h.1.2.grown hg (fun e => by have := hr g2 e.symm; omega)⟩, ⟨h.2.1.1, h.2.1.2.grown hg (fun e => by have := hr g1 e.symm; omega)⟩,
    h.below.trans (grownBy_below hg h.below.size (fun k hk => Nat.le_trans hM (hr k hk)))⟩
/-- v is a slice with these bytes -/
def BV (w : World) (v : Value) (X : List Nat) : Prop := ∃ a n cap, v = .slice a n cap ∧ X.length = n ∧ BAt w a X
/-- v is an answer: nothing, or a row of the call's own -/
def Ans (w0 w : World) (v : Value) (X : List Nat) : Prop := (v = .slice none 0 0 ∧ X = []) ∨ ∃ g n, v = .slice (some ⟨g, 0, none⟩) n n ∧ X.length = n ∧ w0.heap.size ≤ g ∧ Row w g X
theorem Ans.bv {w0 w : World} {v : Value} {X : List Nat} (h : Ans w0 w v X) : BV w v X := by
  rcases h with ⟨rfl, rfl⟩ | ⟨g, n, rfl, hn, _, hr⟩
  · exact ⟨none, 0, 0, rfl, rfl, .inl rfl⟩
  · exact ⟨_, n, n, rfl, hn, hr.bat⟩
theorem BV.on {w w' : World} {v : Value} {X : List Nat} (h : BV w v X) (hb : Below w.heap.size w w') : BV w' v X := by
  obtain ⟨a, n, cap, rfl, hn, hx⟩ := h
  exact ⟨a, n, cap, rfl, hn, hx.on hb (Nat.le_refl _)⟩
theorem Ans.on {w0 w w' : World} {v : Value} {X : List Nat} (h : Ans w0 w v X) (hb : Below w.heap.size w w') : Ans w0 w' v X := by
  rcases h with h | ⟨g, n, rfl, hn, hg, hr⟩
  · exact .inl h
  · exact .inr ⟨g, n, rfl, hn, hg, hr.on hb hr.lt⟩

theorem over_u {w0 : World} (v : Value) (X : List Nat) (w : World) (hl : X.length ≤ 100000) (h : Ans w0 w v X) :
    Calls Try.prog 31 #[v] w (OverPost v.ownBlock w) := by
  rcases h with ⟨rfl, rfl⟩ | ⟨g, n, rfl, hn, _, hr⟩
  · exact over_nil w
  · exact over_row g n X w hn (by omega) hr
theorem Ans.block {w0 w : World} {v : Value} {X : List Nat} (h : Ans w0 w v X) : ∀ k, v.ownBlock = some k → w0.heap.size ≤ k ∧ k < w.heap.size := by
  intro k hk
  rcases h with ⟨rfl, rfl⟩ | ⟨g, n, rfl, hn, hg, hr⟩
  · cases hk
  · have : g = k := Option.some.inj hk
    subst this
    exact ⟨hg, hr.lt⟩
theorem Ans.grown {w0 w w' : World} {v : Value} {X : List Nat} {r : Option Nat} (h : Ans w0 w v X) (hg : w.grownBy w' r) (hr : ∀ k, v.ownBlock = some k → some k ≠ r) : Ans w0 w' v X := by
  rcases h with h | ⟨g, n, rfl, hn, hgg, hrow⟩
  · exact .inl h
  · exact .inr ⟨g, n, rfl, hn, hgg, hrow.grown hg (hr g rfl)⟩

theorem ans_apart {w0 w1 w : World} {v1 v3 : Value} {X U : List Nat} (h1 : Ans w0 w1 v1 X) (h3 : Ans w1 w v3 U) : ∀ k, v3.ownBlock = some k → some k ≠ v1.ownBlock := fun k hk e => by
  have := (h3.block k hk).1
  have := (h1.block k e.symm).2
  omega
end Go.Proofs.Ytnfaeejeipbciaa
end

section
set_option linter.unusedVariables false
set_option linter.unusedSimpArgs false
namespace Go.Proofs.Ytnfaeejeipbciaa
open Go.RowKit BigFrame

theorem same_len (a b : Option Addr) (c1 c2 n m : Nat) (w : World) (h : n ≠ m) :
    Calls Try.prog 27 #[.slice a n c1, .slice b m c2] w fun e w' => e = .returned (.bool false) ∧ w = w' := by
  have t : ((n : Int) != (m : Int)) = true := by rw [bne_iff_ne]; omega
  go_enter Try.func27, Try.ntmps27
  go_wp2_with fail
  go_ret
  exact ⟨rfl, rfl⟩

def SameRel (l m : List Nat) (w : World) (i : Value) (wr : World) : Prop :=
  ∃ k q : Nat, k ≤ l.length ∧ i = .int .i64 k ∧ wr = w.drewN q ∧ ∀ j, j < k → bz l j = bz m j

set_option maxHeartbeats 400000 in
theorem same_eq (a b : Option Addr) (c1 c2 n : Nat) (l m : List Nat) (w : World) (hl : l.length = n) (hm : m.length = n) (hn : n ≤ 100000) (ha : BAt w a l) (hb : BAt w b m) :
    Calls Try.prog 27 #[.slice a n c1, .slice b n c2] w (Told (.bool (decide (l = m))) w) := by
  have ha' := Lib.hid ha
  have hb' := Lib.hid hb
  have hl' := Lib.hid hl
  have hm' := Lib.hid hm
  have hn' := Lib.hid hn
  clear ha hb hl hm
  go_enter Try.func27, Try.ntmps27
  go_wp2_with fail
  go_loopw [5] (fun i wr => SameRel l m w i wr) (fun i _ => n - (intOf i).toNat)
  case atStart => exact ⟨0, 0, by omega, rfl, rfl, fun j h => by omega⟩
  case round =>
    obtain ⟨k, q, hk, rfl, rfl, heq⟩ := hrel
    rw [hl'.out] at hk
    have heq' := Lib.hid heq
    clear heq
    by_cases hlt : k < n
    · obtain ⟨b1, o1, rfl⟩ := ha'.out.addr (by rw [hl'.out]; omega)
      obtain ⟨b2, o2, rfl⟩ := hb'.out.addr (by rw [hm'.out]; omega)
      have q1 := ha'.out.cell (k := k) (by rw [hl'.out]; omega)
      have q2 := hb'.out.cell (k := k) (by rw [hm'.out]; omega)
      by_cases he : bz l k = bz m k
      · have t : (((bz l k : Nat) : Int) != ((bz m k : Nat) : Int)) = false := by rw [bne_eq_false_iff_eq, he]
        have hend := Lib.hid (fun p => show SameRel l m w (.int .i64 ((k : Int) + 1)) (w.drewN p) from ⟨k + 1, p, by rw [hl'.out]; omega, by go_num, rfl, fun j hj => by
          by_cases e : j = k
          · subst e; exact he
          · exact heq'.out j (by omega)⟩)
        clear he
        go_wp2_with fail
        go_big_quiet (fail)
        go_wp2_with fail
        exact ⟨hend.out _, by simp [intOf]; omega⟩
      · have t : (((bz l k : Nat) : Int) != ((bz m k : Nat) : Int)) = true := by rw [bne_iff_ne]; omega
        have hend := Lib.hid (show decide (l = m) = false by rw [decide_eq_false_iff_not]; intro e; exact he (by rw [e]))
        clear he
        go_wp2_with fail
        go_big_quiet (fail)
        go_wp2_with fail
        go_ret
        exact ⟨by rw [hend.out]; rfl, _, World.drewN_drewN _ _ _⟩
    · have hend := Lib.hid (show decide (l = m) = true by
        rw [decide_eq_true_eq]
        exact bz_ext (by rw [hl'.out, hm'.out]) (fun j hj => heq'.out j (by rw [hl'.out] at hj; omega)))
      go_wp2_with fail
      go_ret
      exact ⟨by rw [hend.out]; rfl, _, rfl⟩
/-- are two lists the same? -/
theorem same_any (a b : Option Addr) (c1 c2 n1 n2 : Nat) (l m : List Nat) (w : World) (hl : l.length = n1) (hm : m.length = n2) (hn : n1 ≤ 100000) (ha : BAt w a l) (hb : BAt w b m) :
    Calls Try.prog 27 #[.slice a n1 c1, .slice b n2 c2] w (Told (.bool (decide (l = m))) w) := by
  by_cases h : n1 = n2
  · subst h; exact same_eq a b c1 c2 n1 l m w hl hm hn ha hb
  · have e : decide (l = m) = false := by rw [decide_eq_false_iff_not]; intro e; rw [e] at hl; omega
    rw [e]
    exact (same_len a b c1 c2 n1 n2 w h).mono fun _ _ ⟨he, hw⟩ => ⟨he, 0, hw.symm⟩
theorem same_same (a b : Option Addr) (c1 c2 n : Nat) (l m : List Nat) (w : World) (hl : l.length = n) (hlm : l = m) (hn : n ≤ 100000) (ha : BAt w a l) (hb : BAt w b m) :
    Calls Try.prog 27 #[.slice a n c1, .slice b n c2] w fun e w' => e = .returned (.bool true) ∧ Below w.heap.size w w' := by
  subst hlm
  refine (same_any a b c1 c2 n n l l w hl hl hn ha hb).mono fun e w' h => ?_
  have := h.below
  rwa [show decide (l = l) = true by simp] at this
theorem same_diff (a b : Option Addr) (c1 c2 n : Nat) (l m : List Nat) (w : World) (hl : l.length = n) (hm : m.length = n) (hlm : l ≠ m) (hn : n ≤ 100000) (ha : BAt w a l) (hb : BAt w b m) :
    Calls Try.prog 27 #[.slice a n c1, .slice b n c2] w fun e w' => e = .returned (.bool false) ∧ Below w.heap.size w w' := by
  refine (same_any a b c1 c2 n n l m w hl hm hn ha hb).mono fun e w' h => ?_
  have := h.below
  rwa [show decide (l = m) = false by simpa using hlm] at this
theorem same_r (a b : Option Addr) (c1 c2 n : Nat) (l m : List Nat) (r : Bool) (w : World) (hl : l.length = n) (hm : m.length = n) (hr : decide (l = m) = r) (hn : n ≤ 100000) (ha : BAt w a l) (hb : BAt w b m) :
    Calls Try.prog 27 #[.slice a n c1, .slice b n c2] w fun e w' => e = .returned (.bool r) ∧ Below w.heap.size w w' := by
  subst hr
  exact (same_any a b c1 c2 n n l m w hl hm hn ha hb).mono fun e w' h => h.below
end Go.Proofs.Ytnfaeejeipbciaa
end

section
set_option linter.unusedVariables false
set_option linter.unusedSimpArgs false
namespace Go.Proofs.Ytnfaeejeipbciaa
open Go.RowKit

theorem same_u (v1 v2 : Value) (X : List Nat) (w : World) (hl : X.length ≤ 100000) (h1 : BV w v1 X) (h2 : BV w v2 X) :
    Calls Try.prog 27 #[v1, v2] w fun e w' => e = .returned (.bool true) ∧ Below w.heap.size w w' := by
  obtain ⟨a, n, c1, rfl, hn, hx⟩ := h1
  obtain ⟨b, m, c2, rfl, hm, hy⟩ := h2
  obtain rfl : n = m := by omega
  exact same_same a b c1 c2 n X X w hn rfl (by omega) hx hy
end Go.Proofs.Ytnfaeejeipbciaa
end

section
set_option linter.unusedVariables false
set_option linter.unusedSimpArgs false
namespace Go.Proofs.Ytnfaeejeipbciaa
open Go.RowKit BigFrame

/-- slices of bytes that lie there -/
def Parts (w : World) (a : Option Addr) (n : Nat) (X : Nat → List Nat) : Prop :=
  n = 0 ∨ ∃ b off, a = some ⟨b, off, none⟩ ∧ ∀ i, i < n → ∃ v, w.cell? ⟨b, off + i, none⟩ = some v ∧ BV w v (X i) ∧ (X i).length ≤ 100000
theorem Parts.drew {w : World} {a : Option Addr} {n m : Nat} {X : Nat → List Nat} (h : Parts w a n X) : Parts (w.drewN m) a n X := h
theorem Sheet.parts {w : World} {B g n : Nat} {V : Nat → Value} {X : Nat → List Nat} {bk : Nat → Nat} (h : Sheet w B g n V X bk) (hl : ∀ i, i < n → (X i).length ≤ 100000) : Parts w (some ⟨g, 0, none⟩) n X :=
  .inr ⟨g, 0, rfl, fun i hi => ⟨V i, by rw [Nat.zero_add]; exact h.row.cell hi, by
    obtain ⟨a, cap, e, hb, _, _⟩ := (h.own i hi).1.slice
    exact ⟨a, _, cap, e, rfl, hb⟩, hl i hi⟩⟩
def SpRel (n : Nat) (w : World) (g : Nat) (i : Value) (wr : World) : Prop := ∃ k q : Nat, k + g = n ∧ i = .int .i64 k ∧ wr = w.drewN q

set_option maxHeartbeats 1000000 in
theorem parts_same (a b : Option Addr) (c1 c2 n : Nat) (X Y : Nat → List Nat) (w : World) (hn : n ≤ 100000) (hx : Parts w a n X) (hy : Parts w b n Y) (he : ∀ i, i < n → X i = Y i) :
    Calls Try.prog 19 #[.slice a n c1, .slice b n c2] w (Told (.bool true) w) := by
  have hx' := Lib.hid hx
  have hy' := Lib.hid hy
  have he' := Lib.hid he
  clear hx hy he
  go_enter Try.func19, Try.ntmps19
  go_wp2_with fail
  go_loopg [5] n (fun g i wr => SpRel n w g i wr)
  case atStart => exact ⟨0, 0, by omega, rfl, rfl⟩
  case round =>
    obtain ⟨k, q, hk, rfl, rfl⟩ := hrel
    by_cases hlt : k < n
    · obtain ⟨g, rfl⟩ : ∃ g, gk = g + 1 := ⟨gk - 1, by omega⟩
      obtain ⟨b1, o1, rfl, v1, q1, hv1, hl1⟩ : ∃ b1 o1, a = some ⟨b1, o1, none⟩ ∧ ∃ v1, w.cell? ⟨b1, o1 + k, none⟩ = some v1 ∧ BV w v1 (X k) ∧ (X k).length ≤ 100000 := by
        rcases hx'.out with h | ⟨b1, o1, e, h⟩
        · omega
        · exact ⟨b1, o1, e, h k hlt⟩
      obtain ⟨b2, o2, rfl, v2, q2, hv2, hl2⟩ : ∃ b2 o2, b = some ⟨b2, o2, none⟩ ∧ ∃ v2, w.cell? ⟨b2, o2 + k, none⟩ = some v2 ∧ BV w v2 (Y k) ∧ (Y k).length ≤ 100000 := by
        rcases hy'.out with h | ⟨b2, o2, e, h⟩
        · omega
        · exact ⟨b2, o2, e, h k hlt⟩
      obtain ⟨a1, n1, cc1, rfl, hn1, ha1⟩ := hv1
      obtain ⟨a2, n2, cc2, rfl, hn2, ha2⟩ := hv2
      obtain ⟨wq, hwq⟩ : ∃ wq, w.drewN q = wq := ⟨_, rfl⟩
      have hS := Lib.hid (fun p => show Calls Try.prog 27 #[.slice a1 n1 cc1, .slice a2 n2 cc2] (wq.drewN p) (Told (.bool true) (wq.drewN p)) by
        rw [← hwq]
        have := same_any a1 a2 cc1 cc2 n1 n2 (X k) (Y k) ((w.drewN q).drewN p) hn1 hn2 (by omega) ha1.drew.drew ha2.drew.drew
        rwa [show decide (X k = Y k) = true by rw [decide_eq_true_eq]; exact he'.out k hlt] at this)
      have q1' : wq.cell? ⟨b1, o1 + k, none⟩ = some (.slice a1 n1 cc1) := by rw [← hwq]; exact q1
      have q2' : wq.cell? ⟨b2, o2 + k, none⟩ = some (.slice a2 n2 cc2) := by rw [← hwq]; exact q2
      rw [hwq]
      have hwq' := Lib.hid hwq
      clear hn1 hn2 ha1 ha2 hl1 hl2 hwq q1 q2
      go_wp2_with fail
      go_quiet ((go_at_call 27; refine Calls.quiet_of (hS.out _)))
      go_wp2_with fail
      go_roundg g
      case measure => omega
      case rel => exact ⟨k + 1, _, by omega, by go_num, by rw [← hwq'.out]; exact World.drewN_drewN _ _ _⟩
    · obtain rfl : k = n := by omega
      go_wp2_with fail
      go_ret
      exact ⟨rfl, _, rfl⟩
end Go.Proofs.Ytnfaeejeipbciaa
end

section
set_option linter.unusedVariables false
set_option linter.unusedSimpArgs false
namespace Go.Proofs.Ytnfaeejeipbciaa
open Go.RowKit BigFrame

/-- the i-th byte of a number's -/
def fillB (n : Int) (i : Nat) : Nat := ((n / 2 ^ (8 * (i % 4)) + (i : Int) * 7) % 256).toNat
def fillN (n : Int) (s : Nat) : List Nat := (List.range s).map (fillB n)
theorem fillN_length (n : Int) (s : Nat) : (fillN n s).length = s := by simp [fillN]
theorem fillN_succ (n : Int) (k : Nat) : fillN n (k + 1) = fillN n k ++ [fillB n k] := by simp [fillN, List.range_succ]
def FillRel (n : Int) (s : Nat) (w : World) (g : Nat) (v i : Value) (wr : World) : Prop :=
  ∃ k : Nat, k + g = s ∧ i = .int .i64 k ∧ OwnB wr w.heap.size v (fillN n k) ∧ Below w.heap.size w wr

set_option maxHeartbeats 1000000 in
theorem fill_any (n : Int) (s : Nat) (w : World) (hs : s ≤ 30000) :
    Calls Try.prog 23 #[.int .i64 n, .int .i64 (s : Int)] w (GivesB (fillN n s) w) := by
  go_enter Try.func23, Try.ntmps23
  go_wp2_with fail
  go_loopg [5, 6] s (fun g v i wr => FillRel n s w g v i wr)
  case atStart => exact ⟨0, by omega, rfl, OwnB.nil _ _, Below.refl _ _⟩
  case round =>
    obtain ⟨k, hk, rfl, hO, hB⟩ := hrel
    have hO' := Lib.hid hO
    have hB' := Lib.hid hB
    have hkb : k ≤ 30000 := by omega
    clear hO hB
    by_cases hlt : k < s
    · obtain ⟨g, rfl⟩ : ∃ g, gk = g + 1 := ⟨gk - 1, by omega⟩
      obtain ⟨b, hb0⟩ : ∃ b, fillB n k = b := ⟨_, rfl⟩
      have hb : (n / 2 ^ (8 * (k % 4)) + (k : Int) * 7) % 256 = (b : Int) := by
        rw [← hb0, fillB]
        have := Int.emod_nonneg (n / 2 ^ (8 * (k % 4)) + (k : Int) * 7) (show (256 : Int) ≠ 0 by omega)
        omega
      have hb' := Lib.hid hb0
      have hl1 := Lib.hid (fillN_length n k)
      have B1 := Lib.hid (hB'.out.alloc hB'.out.size (.cells #[.int .u8 (b : Int)] 5))
      have O1 := Lib.hid (hO'.out.on ((Below.refl wr.heap.size wr).alloc (Nat.le_refl _) (.cells #[.int .u8 (b : Int)] 5)) (Nat.le_refl _))
      have N1 := Lib.hid (show BAt (wr.alloc (.cells #[.int .u8 (b : Int)] 5)) (some ⟨wr.heap.size, 0, none⟩) [b] from (row_alloc wr [b]).bat)
      clear hb0
      go_wp2_with (at_builtin; refine wpList_append_bytes rfl (.tmp 16) (.tmp 27) rfl w.heap.size _ (fillN n k) rfl O1.out _ 1 1 [b] rfl rfl N1.out (fun h => by cases h) (by rw [hl1.out]; omega) B1.out.size ?_; intro v2 w2 ho2 hg2 hb2; have B2 := Lib.hid (B1.out.trans hb2); clear hb2 hg2)
      go_roundg g
      case measure => omega
      case rel =>
        refine ⟨k + 1, by omega, by go_num, ?_, B2.out⟩
        rw [fillN_succ, hb'.out]; exact ho2.out
    · obtain rfl : k = s := by omega
      go_wp2_with fail
      go_ret
      exact ⟨_, rfl, hO'.out, hB'.out⟩
theorem fill_c (n C : Int) (s : Nat) (w : World) (hC : C = (s : Int)) (hs : s ≤ 30000) :
    Calls Try.prog 23 #[.int .i64 n, .int .i64 C] w (GivesB (fillN n s) w) := by
  subst hC; exact fill_any n s w hs
end Go.Proofs.Ytnfaeejeipbciaa
end

section
set_option linter.unusedVariables false
set_option linter.unusedSimpArgs false
namespace Go.Proofs.Ytnfaeejeipbciaa
open Go.RowKit BigFrame

theorem blI_drew {B m : Nat} {a w : World} (h : Below B a w) : Below B a (w.drewN m) := ⟨h.os, h.tape, h.output, h.size, h.block⟩
def SameIRel (a b : Option Addr) (n : Nat) (R C : Nat → Int) (w : World) (i : Value) (wr : World) : Prop :=
  ∃ k : Nat, k ≤ n ∧ i = .int .i64 k ∧ IntsAt wr a n R ∧ IntsAt wr b n C ∧ Below w.heap.size w wr
theorem sameI_any (a b : Option Addr) (c1 c2 n : Nat) (R C : Nat → Int) (w : World) (hn : n ≤ 1000) (ha : IntsAt w a n R) (hb : IntsAt w b n C) (he : ∀ k, k < n → R k = C k) :
    Calls Try.prog 14 #[.slice a n c1, .slice b n c2] w fun e w' => e = .returned (.bool true) ∧ Below w.heap.size w w' := by
  have ha' := Lib.hid ha
  have hb' := Lib.hid hb
  have he' := Lib.hid he
  clear ha hb he
  go_enter Try.func14, Try.ntmps14
  go_wp2_with fail
  go_loopw [5] (fun i wr => SameIRel a b n R C w i wr) (fun i _ => n - (intOf i).toNat)
  case atStart => exact ⟨0, by omega, rfl, ha'.out, hb'.out, Below.refl _ _⟩
  case round =>
    obtain ⟨k, hk, rfl, hA, hB, hbel⟩ := hrel
    by_cases hlt : k < n
    · have hA' := hA
      have hB' := hB
      rcases hA' with h | ⟨b1, o1, rfl, h1⟩
      · omega
      · rcases hB' with h | ⟨b2, o2, rfl, h2⟩
        · omega
        · have q1 := h1 k hlt
          have q2 := h2 k hlt
          rw [he'.out k hlt] at q1
          have hend := Lib.hid (fun m => show SameIRel (some ⟨b1, o1, none⟩) (some ⟨b2, o2, none⟩) n R C w (.int .i64 ((k : Int) + 1)) (World.drewN _ m) from ⟨k + 1, by omega, by go_num, hA.drew, hB.drew, blI_drew hbel⟩)
          clear h1 h2 hA hB hbel
          go_wp2_with fail
          go_big_quiet (fail)
          go_wp2_with fail
          exact ⟨hend.out _, by simp [intOf]; omega⟩
    · have hbel' := Lib.hid hbel
      clear hA hB hbel
      go_wp2_with fail
      go_ret
      exact ⟨rfl, hbel'.out⟩

end Go.Proofs.Ytnfaeejeipbciaa
end

section
set_option linter.unusedVariables false
set_option linter.unusedSimpArgs false
namespace Go.Proofs.Ytnfaeejeipbciaa
open Go.RowKit BigFrame

def zrow : Array Value := (bv (zs 128)).toArray
theorem make_zrow (w : World) : (Instr.makeSlice 54 (.int .i64 128) (.int .i64 128)).run Try.prog w = .ok (.slice (some ⟨w.heap.size, 0, none⟩) 128 128) (w.alloc (.cells zrow 5)) := by
  have := run_make_row' (P := Try.prog) 54 5 (.int .u8 0) 1 Try.underlying54 Try.infoB rfl .i64 .i64 128 (by omega) (by omega) w
  rw [made_bytes] at this
  exact this
theorem zrow_row (w : World) : Row (w.alloc (.cells zrow 5)) w.heap.size (zs 128) := row_alloc w (zs 128)
theorem wake_seen (l : List Nat) : ((((Dk.fresh 3 fun _ => zs 128).wrote 1 l).crashed []).booted).seen 1 = zs 128 := rfl

end Go.Proofs.Ytnfaeejeipbciaa
end

section
set_option linter.unusedVariables false
set_option linter.unusedSimpArgs false
namespace Go.Proofs.Ytnfaeejeipbciaa
open Go.RowKit BigFrame

theorem Step.beside {w w' : World} {F F' : List Nat} (h : Step w F w' F') (R : List Nat) : Step w (F ++ R) w' (F' ++ R) :=
  ⟨h.os, h.tape, h.output, h.size, fun k hk hf => h.block k hk (fun e => hf (List.mem_append_left _ e)), fun k hk => by
    rcases List.mem_append.1 hk with hk | hk
    · exact (h.foot k hk).imp (List.mem_append_left _) id
    · exact .inl (List.mem_append_right _ hk)⟩
theorem Off.left {w : World} {F R : List Nat} {k : Nat} (h : Off w (F ++ R) k) : Off w F k := ⟨fun e => h.1 (List.mem_append_left _ e), h.2⟩
/-- a sector's bytes, as a slice that stands beside what may turn -/
def Kept (w : World) (M : List Nat) (gw : Nat) (v : Value) (X : List Nat) : Prop :=
  ∃ g cap, v = .slice (some ⟨g, 0, none⟩) 128 cap ∧ 128 ≤ cap ∧ X.length = 128 ∧ BAt w (some ⟨g, 0, none⟩) X ∧ Off w M g ∧ g ≠ gw
theorem BAt.block {w w' : World} {g : Nat} {l : List Nat} (h : BAt w (some ⟨g, 0, none⟩) l) (e : w'.heap[g]? = w.heap[g]?) : BAt w' (some ⟨g, 0, none⟩) l := by
  rcases h with h | ⟨b, o, e2, h⟩
  · exact .inl h
  · simp only [Option.some.injEq, Addr.mk.injEq, and_true] at e2
    obtain ⟨rfl, rfl⟩ := e2
    exact .inr ⟨g, 0, rfl, fun k hk => by rw [World.cell?_of_block (w := w) (a := ⟨g, 0 + k, none⟩) e]; exact h k hk⟩
theorem Kept.step {w w' : World} {M M' : List Nat} {gw : Nat} {v : Value} {X : List Nat} (h : Kept w M gw v X) (hs : Step w M w' M') : Kept w' M' gw v X := by
  obtain ⟨g, cap, rfl, hc, hl, hx, ho, hne⟩ := h
  exact ⟨g, cap, rfl, hc, hl, hx.block (hs.same ho), hs.off ho, hne⟩
theorem Kept.set {w : World} {M : List Nat} {gw k : Nat} {v u : Value} {X : List Nat} (h : Kept w M gw v X) : Kept (w.setCell ⟨gw, k, none⟩ u) M gw v X := by
  obtain ⟨g, cap, rfl, hc, hl, hx, ho, hne⟩ := h
  exact ⟨g, cap, rfl, hc, hl, hx.block (Below.heap_setCell _ _ _ _ hne), ⟨ho.1, by simpa [World.setCell] using ho.2⟩, hne⟩
/-- N of them in one list, the first k laid -/
def Wants (w : World) (M : List Nat) (base gw N k : Nat) (X : Nat → List Nat) : Prop :=
  ∃ V, w.rowIs gw 54 N V ∧ Off w M gw ∧ base ≤ gw ∧ ∀ i, i < k → Kept w M gw (V i) (X i)
theorem Wants.step {w w' : World} {M M' : List Nat} {base gw N k : Nat} {X : Nat → List Nat} (h : Wants w M base gw N k X) (hs : Step w M w' M') : Wants w' M' base gw N k X := by
  obtain ⟨V, hr, ho, hb, hk⟩ := h
  exact ⟨V, hr.of_block (hs.same ho), hs.off ho, hb, fun i hi => (hk i hi).step hs⟩
theorem Wants.below {w w' : World} {M : List Nat} {base gw N k : Nat} {X : Nat → List Nat} (h : Wants w M base gw N k X) (hb : Below w.heap.size w w') : Wants w' M base gw N k X := h.step (.of_below hb M)
theorem Wants.congr {w : World} {M : List Nat} {base gw N k : Nat} {X Y : Nat → List Nat} (h : Wants w M base gw N k X) (e : ∀ i, i < k → Y i = X i) : Wants w M base gw N k Y := by
  obtain ⟨V, hr, ho, hb, hk⟩ := h
  exact ⟨V, hr, ho, hb, fun i hi => by rw [e i hi]; exact hk i hi⟩
theorem Wants.put {w : World} {M : List Nat} {base gw N k i : Nat} {X : Nat → List Nat} {v : Value} {Y : List Nat} (h : Wants w M base gw N k X) (_hi : i < k) (hv : Kept w M gw v Y) : Wants (w.setCell ⟨gw, i, none⟩ v) M base gw N k (updF X i Y) := by
  obtain ⟨V, hr, ho, hb, hk⟩ := h
  refine ⟨_, hr.set i v, ⟨ho.1, by simpa [World.setCell] using ho.2⟩, hb, fun j hj => ?_⟩
  by_cases e : j = i
  · subst e
    rw [if_pos rfl, updF_same]; exact hv.set
  · rw [if_neg e, updF_other e]; exact (hk j hj).set
theorem Wants.push {w : World} {M : List Nat} {base gw N k : Nat} {X : Nat → List Nat} {v : Value} (h : Wants w M base gw N k X) (hv : Kept w M gw v (X k)) : Wants (w.setCell ⟨gw, k, none⟩ v) M base gw N (k + 1) X := by
  obtain ⟨V, hr, ho, hb, hk⟩ := h
  refine ⟨_, hr.set k v, ⟨ho.1, by simpa [World.setCell] using ho.2⟩, hb, fun j hj => ?_⟩
  by_cases e : j = k
  · subst e
    rw [if_pos rfl]; exact hv.set
  · rw [if_neg e]; exact (hk j (by omega)).set
theorem Wants.cellAt {w : World} {M : List Nat} {base gw N k i : Nat} {X : Nat → List Nat} (h : Wants w M base gw N k X) (hi : i < N) : (∃ v, w.cell? ⟨gw, i, none⟩ = some v) ∧ w.frozen? ⟨gw, i, none⟩ = false := by
  obtain ⟨V, hr, ho, hb, hk⟩ := h
  exact ⟨⟨_, hr.cell hi⟩, hr.frozen i⟩
theorem Wants.get {w : World} {M : List Nat} {base gw N k i : Nat} {X : Nat → List Nat} (h : Wants w M base gw N k X) (hi : i < k) (hN : k ≤ N) : ∃ g cap, w.cell? ⟨gw, i, none⟩ = some (.slice (some ⟨g, 0, none⟩) 128 cap) ∧ (X i).length = 128 ∧ BAt w (some ⟨g, 0, none⟩) (X i) := by
  obtain ⟨V, hr, ho, hb, hk⟩ := h
  obtain ⟨g, cap, e, _, hl, hx, _⟩ := hk i hi
  exact ⟨g, cap, by rw [hr.cell (by omega), e], hl, hx⟩
theorem Wants.parts {w : World} {M : List Nat} {base gw N : Nat} {X : Nat → List Nat} (h : Wants w M base gw N N X) : Parts w (some ⟨gw, 0, none⟩) N X := by
  obtain ⟨V, hr, ho, hb, hk⟩ := h
  refine .inr ⟨gw, 0, rfl, fun i hi => ⟨V i, by rw [Nat.zero_add]; exact hr.cell hi, ?_, by obtain ⟨g, cap, _, _, hl, _⟩ := hk i hi; omega⟩⟩
  obtain ⟨g, cap, e, _, hl, hx, _⟩ := hk i hi
  exact ⟨_, 128, cap, e, hl, hx⟩
theorem Wants.off {w : World} {M : List Nat} {base gw N k : Nat} {X : Nat → List Nat} (h : Wants w M base gw N k X) : Off w M gw ∧ base ≤ gw := by
  obtain ⟨V, hr, ho, hb, hk⟩ := h
  exact ⟨ho, hb⟩
/-- bytes that a call gave are kept -/
theorem OwnB.kept {w w' : World} {M : List Nat} {gw : Nat} {v : Value} {l : List Nat} (h : OwnB w' w.heap.size v l) (hl : l.length = 128) (hM : ∀ k ∈ M, k < w.heap.size) (hgw : gw < w.heap.size) : Kept w' M gw v l := by
  obtain ⟨g, cap, rfl, hc, hg, hlt⟩ := h.at hl (by omega)
  exact ⟨g, cap, rfl, hc, hl, h.bat, ⟨fun e => by have := hM g e; omega, hlt⟩, by omega⟩
theorem row_kept {w : World} {M : List Nat} {gw : Nat} (hM : ∀ k ∈ M, k < w.heap.size) (hgw : gw < w.heap.size) : Kept (w.alloc (.cells zrow 5)) M gw (.slice (some ⟨w.heap.size, 0, none⟩) 128 128) (zs 128) :=
  ⟨w.heap.size, 128, rfl, Nat.le_refl _, zs_length 128, (zrow_row w).bat, ⟨fun e => by have := hM _ e; omega, by simp⟩, by omega⟩
/-- so many nils, as cells -/
def nils (n : Nat) : Array Value := madeCells #[.slice none 0 0] n
theorem make_nils (n : Nat) (hn : n ≤ 1000) (w : World) : (Instr.makeSlice 40 (.int .i64 (n : Int)) (.int .i64 (n : Int))).run Try.prog w = .ok (.slice (some ⟨w.heap.size, 0, none⟩) n n) (w.alloc (.cells (nils n) 54)) :=
  run_make_row' (P := Try.prog) 40 54 (.slice none 0 0) 24 Try.underlying40 Try.infoP rfl .i64 .i64 n (by omega) (by omega) w
theorem wants_new {w : World} {M : List Nat} {base : Nat} (hM : ∀ k ∈ M, k < w.heap.size) (hb : base ≤ w.heap.size) (n : Nat) (X : Nat → List Nat) : Wants (w.alloc (.cells (nils n) 54)) M base w.heap.size n 0 X :=
  ⟨_, World.rowIs_made w (.slice none 0 0) n 54, ⟨fun e => by have := hM _ e; omega, by simp⟩, hb, fun i h => by omega⟩
theorem Wants.left {w : World} {F R : List Nat} {base gw N k : Nat} {X : Nat → List Nat} (h : Wants w (F ++ R) base gw N k X) : Wants w F base gw N k X := by
  obtain ⟨V, hr, ho, hb, hk⟩ := h
  refine ⟨V, hr, ho.left, hb, fun i hi => ?_⟩
  obtain ⟨g, cap, e, hc, hl, hx, hof, hne⟩ := hk i hi
  exact ⟨g, cap, e, hc, hl, hx, hof.left, hne⟩
theorem image_n (w : World) (B : Nat) (G : Nat) (A : Lies) (d : Dk) (n : Nat) (X : Nat → List Nat) (h : IsDk w B G A d) (hn : d.n = n) (hX : ∀ i, i < n → d.firm i = X i) :
    Calls Try.prog 20 #[.pointer (some ⟨G, 0, none⟩)] w (GivesI n X w) := by
  subst hn
  refine (image_any w B G A d h).mono fun e w' ⟨g, V, bk, he, hs, hb⟩ => ⟨g, V, bk, he, ⟨hs.row, hs.base, fun i hi => by rw [← hX i hi]; exact hs.own i hi, hs.rise⟩, hb⟩
theorem writes_n (w : World) (B : Nat) (G : Nat) (A : Lies) (d : Dk) (n : Nat) (h : IsDk w B G A d) (hn : d.log.length = n) :
    Calls Try.prog 17 #[.pointer (some ⟨G, 0, none⟩)] w (GivesZ n (logD d) w) := by
  subst hn; exact writes_any w B G A d h
theorem Live.lt {w0 w : World} {G : Nat} {A : Lies} {d : Dk} (h : Live w0 w G A d) : ∀ k ∈ A.foot G, k < w.heap.size := fun k hk => (IsDkS.over h.disk k hk).2
end Go.Proofs.Ytnfaeejeipbciaa
end
