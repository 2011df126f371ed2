/-
  What the law has of its own: an image, what waits, what was written; written over one by one.
-/
import Derived.Test.YtmaodnidodoadaaDc
import Derived.Test.YtmaodnidodoadaaPx
import Derived.Test.YtmaodnidodoadaaOvi
namespace Go.Proofs.Ytmaodnidodoadaa
open Go.RowKit BigFrame

theorem rowIs_own {w : World} {g n base : Nat} {D : Nat → Int} (h : w.rowIs g 3 n (fun j => .int .i64 (D j))) (hb : base ≤ g) (hn : n ≤ 100000) : OwnI w base (.slice (some ⟨g, 0, none⟩) n n) n D := by
  obtain ⟨c, hc, hs, hx⟩ := h
  refine ⟨by simp [rl], .inr ⟨g, n, c, rfl, hb, hc, Nat.le_refl _, by unfold maxLen; omega, by omega, ?_⟩⟩
  rw [Nat.mul_one, List.take_of_length_le (by simp [hs])]
  apply List.ext_getElem?
  intro k
  by_cases hk : k < n
  · rw [rl_get hk, ← hx k hk]; simp
  · rw [List.getElem?_eq_none (by simp [hs]; omega), List.getElem?_eq_none (by rw [rl_length]; omega)]
theorem rlog_ints {w : World} {B G : Nat} {A : RLies} {R : List Nat} {d : Dk} (h : IsRf w B G A R d) : ∃ a cap, A.vL = .slice a d.log.length cap ∧ IntsAt w a d.log.length (logD d) := by
  have hc := fun g hg => World.ownsRow.cells h.log (g := g) hg
  rcases h.log.2 with ⟨e, e2⟩ | ⟨g, cap, cur, e, _, _, hn, _⟩
  · exact ⟨none, 0, by rw [e, e2], .inl e2⟩
  · refine ⟨_, cap, e, .inr ⟨g, 0, rfl, fun k hk => ?_⟩⟩
    have := hc g (by rw [e]; rfl) k (.int .i64 (logD d k)) (by simp [icells, logD, List.getD, hk])
    rwa [addr_add] at this

/-- an image of n rows in block g, from row k on as it was made; two lists of integers; all of it behind p -/
structure Mine (w3 : World) (g n p4 p5 : Nat) (V : Nat → Value) (X : Nat → List Nat) (bk : Nat → Nat) (va : Value) (na : Nat) (Da : Nat → Int) (vb : Value) (nb : Nat) (Db : Nat → Int) (k : Nat) (wr : World) : Prop where
  row : wr.rowIs g 43 n V
  own : ∀ i, k ≤ i → i < n → OwnB wr w3.heap.size (V i) (X i)
  bks : ∀ i, i < n → (V i).ownBlock = some (bk i) ∧ g < bk i ∧ bk i < p4
  rise : ∀ i j, i < j → j < n → bk i < bk j
  low : w3.heap.size ≤ g
  a : OwnI wr p4 va na Da
  aLt : ∀ c, va.ownBlock = some c → c < p5
  b : OwnI wr p5 vb nb Db
  p : p4 ≤ p5
  p3 : w3.heap.size ≤ p4
  p6 : p5 ≤ wr.heap.size
  bl : Below w3.heap.size w3 wr
section
variable {w3 wr w' : World} {g n p4 p5 na nb k : Nat} {V : Nat → Value} {X : Nat → List Nat} {bk : Nat → Nat} {va vb : Value} {Da Db : Nat → Int}
theorem Mine.lt (h : Mine w3 g n p4 p5 V X bk va na Da vb nb Db k wr) : g < wr.heap.size := h.row.lt
theorem Mine.on (h : Mine w3 g n p4 p5 V X bk va na Da vb nb Db k wr) (hb : Below wr.heap.size wr w') : Mine w3 g n p4 p5 V X bk va na Da vb nb Db k w' :=
  ⟨h.row.of_block (hb.block g h.lt), fun i h1 h2 => OwnB.block (h.own i h1 h2) (fun c hc => hb.block c (OwnB.lt (h.own i h1 h2) c hc).2), h.bks, h.rise, h.low,
    ownsRow_block h.a (fun c hc => hb.block c (World.ownsRow.lt h.a c hc).2), h.aLt, ownsRow_block h.b (fun c hc => hb.block c (World.ownsRow.lt h.b c hc).2), h.p, h.p3, Nat.le_trans h.p6 hb.size, h.bl.trans (hb.mono h.bl.size)⟩
/-- row k is written over -/
theorem Mine.over (h : Mine w3 g n p4 p5 V X bk va na Da vb nb Db k wr) (hk : k < n) (hg : wr.grownBy w' (V k).ownBlock) : Mine w3 g n p4 p5 V X bk va na Da vb nb Db (k + 1) w' := by
  obtain ⟨e, hgk, hk4⟩ := h.bks k hk
  rw [e] at hg
  have hne : ∀ c, c ≠ bk k → some c ≠ some (bk k) := fun c hc e => hc (Option.some.inj e)
  refine ⟨h.row.of_block (hg.block g h.lt (hne _ (by omega))), fun i h1 h2 => ?_, h.bks, h.rise, h.low, ?_, h.aLt, ?_, h.p, h.p3, Nat.le_trans h.p6 hg.size, ?_⟩
  · have hlt := OwnB.lt (h.own i (by omega) h2)
    refine OwnB.block (h.own i (by omega) h2) (fun c hc => hg.block c (hlt c hc).2 (hne _ ?_))
    have := (h.bks i h2).1
    rw [this] at hc
    have hr := h.rise k i (by omega) h2
    have := Option.some.inj hc
    omega
  · exact ownsRow_block h.a (fun c hc => hg.block c (World.ownsRow.lt h.a c hc).2 (hne _ (by have := (World.ownsRow.lt h.a c hc).1; omega)))
  · exact ownsRow_block h.b (fun c hc => hg.block c (World.ownsRow.lt h.b c hc).2 (hne _ (by have := (World.ownsRow.lt h.b c hc).1; have := h.p; omega)))
  · exact h.bl.trans (grownBy_below hg h.bl.size (fun c hc => by have := Option.some.inj hc; have := h.low; omega))
/-- the first list is written over -/
theorem Mine.overA (h : Mine w3 g n p4 p5 V X bk va na Da vb nb Db k wr) (hg : wr.grownBy w' va.ownBlock) : OwnI w' p5 vb nb Db ∧ p5 ≤ w'.heap.size ∧ Below w3.heap.size w3 w' := by
  have hA := World.ownsRow.lt h.a
  refine ⟨ownsRow_block h.b (fun c hc => hg.block c (World.ownsRow.lt h.b c hc).2 (fun e => ?_)), Nat.le_trans h.p6 hg.size, h.bl.trans (grownBy_below hg h.bl.size (fun c hc => by have := (hA c hc).1; have := h.p3; omega))⟩
  have h1 := h.aLt c e.symm
  have h2 := (World.ownsRow.lt h.b c hc).1
  omega
theorem Mine.parts (h : Mine w3 g n p4 p5 V X bk va na Da vb nb Db 0 wr) (hl : ∀ i, i < n → (X i).length ≤ 100000) : Parts wr (some ⟨g, 0, none⟩) n X :=
  .inr ⟨g, 0, rfl, fun i hi => ⟨V i, by rw [Nat.zero_add]; exact h.row.cell hi, by
    obtain ⟨a, cap, e, hb, _, _⟩ := (h.own i (Nat.zero_le _) hi).slice
    exact ⟨a, _, cap, e, rfl, hb⟩, hl i hi⟩⟩
/-- made one behind the other -/
theorem mine_new {w4 w5 w6 : World} (hI : Sheet w4 w3.heap.size g n V X bk) (h4 : Below w3.heap.size w3 w4) (ha : OwnI w5 w4.heap.size va na Da) (h5 : Below w4.heap.size w4 w5) (hb : OwnI w6 w5.heap.size vb nb Db) (h6 : Below w5.heap.size w5 w6) :
    Mine w3 g n w4.heap.size w5.heap.size V X bk va na Da vb nb Db 0 w6 := by
  have h46 := h5.trans (h6.mono h5.size)
  refine ⟨hI.row.of_block (h46.block g hI.row.lt), fun i _ h2 => ?_, fun i hi => ?_, hI.rise, hI.base, ?_, fun c hc => (World.ownsRow.lt ha c hc).2, hb, h5.size, h4.size, h6.size, h4.trans (h46.mono h4.size)⟩
  · exact OwnB.block (hI.own i h2).1 (fun c hc => h46.block c (OwnB.lt (hI.own i h2).1 c hc).2)
  · obtain ⟨o, e, hgt⟩ := hI.own i hi
    exact ⟨e, hgt, (OwnB.lt o _ e).2⟩
  · exact ownsRow_block ha (fun c hc => h6.block c (World.ownsRow.lt ha c hc).2)
end
end Go.Proofs.Ytmaodnidodoadaa
