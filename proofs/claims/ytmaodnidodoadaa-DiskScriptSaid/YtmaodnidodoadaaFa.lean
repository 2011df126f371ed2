/-
  Does the power go now? And: armed, and on again.
-/
import Derived.Test.YtmaodnidodoadaaCr
namespace Go.Proofs.Ytmaodnidodoadaa
open Go.RowKit BigFrame

def Dk.fall (d : Dk) : Bool := d.set && decide (d.after = 0)
def Dk.fell (d : Dk) : Dk := if d.set then (if d.after = 0 then d.crashed d.keep else d.ticked) else d
theorem Dk.Fine.fell {d : Dk} (h : d.Fine) : d.fell.Fine := by
  unfold Dk.fell
  split
  · split
    · exact h.crashed _
    · exact h.ticked
  · exact h
theorem IsDkS.vk {w : World} {B G : Nat} {A : Lies} {d : Dk} {sn : Nat → List Nat} (h : IsDkS w B G A d sn) : ∃ a cap, A.vk = .slice a d.keep.length cap ∧ d.keep.length ≤ cap ∧ KAt w a d.keep ∧ Beside a d.keep.length G A := by
  have hc := fun g hg => World.ownsRow.cells h.keep (g := g) hg
  rcases h.keep.2 with ⟨e, e2⟩ | ⟨g, cap, cur, e, _, _, hn, _⟩
  · exact ⟨none, 0, by rw [e, e2], by omega, .inl e2, fun b o _ h => by cases h⟩
  · refine ⟨_, cap, e, hn, .inr ⟨g, 0, rfl, fun k hk => ?_⟩, fun b o _ h2 => ?_⟩
    · have := hc g (by rw [e]; rfl) k _ (kcells_get hk)
      rwa [addr_add] at this
    · simp only [Option.some.injEq, Addr.mk.injEq, and_true] at h2
      obtain ⟨rfl, -⟩ := h2
      have := h.wOff (k := g) (by simp [e, Value.ownBlock])
      exact ⟨this.2.1, this.2.2, this.1⟩
theorem tick_end {w : World} {B G : Nat} {A : Lies} {d : Dk} (h : IsDk w B G A d) (ha : 0 < d.after) : IsDk (w.setCell ⟨G, 7, none⟩ (.int .i64 ((d.after : Int) - 1))) B G A d.ticked := by
  refine IsDkS.head h (A' := A) (d' := d.ticked) (sn' := d.ticked.seen) ?_ (fun k hk => ?_) (by simp [World.setCell]) rfl rfl (.inl ⟨rfl, rfl⟩) (.inl ⟨rfl, rfl⟩) (.inl ⟨rfl, rfl⟩) h.fine.ticked rfl (fun i _ => rfl) (fun i _ => rfl)
  · rw [heap_setCell_same _ _ _ _ _ _ h.hdr]
    simp [hcells, Dk.ticked]
    omega
  · rw [Below.heap_setCell _ _ _ _ hk]

set_option maxHeartbeats 400000 in
theorem falls_any (w : World) (B : Nat) (G : Nat) (A : Lies) (d : Dk) (h : IsDk w B G A d) :
    Calls Try.prog 38 #[.pointer (some ⟨G, 0, none⟩)] w (GivesS (.bool d.fall) d.fell B G A w) := by
  have c6 := h.cell 6
  have c7 := h.cell 7
  have c8 := h.cell 8
  have f7 := h.frozen 7
  have haft := h.fine.aft
  obtain ⟨ka, kcap, hvk, hkc, hka, hbs⟩ := h.vk
  obtain ⟨st, hst⟩ : ∃ st, d.set = st := ⟨_, rfl⟩
  obtain ⟨af, haf⟩ : ∃ af, d.after = af := ⟨_, rfl⟩
  obtain ⟨nk, hnk⟩ : ∃ nk, d.keep.length = nk := ⟨_, rfl⟩
  have hkb := h.fine.keeps
  simp only [hcells, hst, haf, hvk, hnk, List.getElem?_toArray, List.getElem?_cons_zero, List.getElem?_cons_succ] at c6 c7 c8
  rw [haf] at haft
  rw [hnk] at hkb hkc
  have h' := Lib.hid h
  have hka' := Lib.hid hka
  have hbs' := Lib.hid (hnk ▸ hbs)
  have hnk' := Lib.hid hnk
  have haf' := Lib.hid haf
  cases st
  · have e1 : d.fall = false := by simp [Dk.fall, hst]
    have e2 : d.fell = d := by simp [Dk.fell, hst]
    rw [e1, e2]
    clear h hka hbs hnk haf hvk hst e1 e2
    go_enter Try.func38, Try.ntmps38
    go_wp2_with fail
    go_ret
    exact ⟨rfl, A, h'.out, Step.refl _ _⟩
  · by_cases h0 : af = 0
    · have e1 : d.fall = true := by simp [Dk.fall, hst, haf, h0]
      have e2 : d.fell = d.crashed d.keep := by simp [Dk.fell, hst, haf, h0]
      rw [e1, e2]
      clear h hka hbs hnk haf hvk hst e1 e2
      subst h0
      go_enter Try.func38, Try.ntmps38
      go_wp2_with (go_at_call 21; refine (crash_any _ B G A d h'.out ka nk kcap d.keep hnk'.out hkc hkb hka'.out hbs'.out).mono ?_; rintro e w1 ⟨rfl, A1, hD1, hS1⟩; have D1 := Lib.hid hD1; have S1 := Lib.hid hS1; clear hD1 hS1)
      go_ret
      exact ⟨rfl, A1, D1.out, S1.out⟩
    · have e1 : d.fall = false := by simp [Dk.fall, haf, h0]
      have e2 : d.fell = d.ticked := by simp [Dk.fell, hst, haf, h0]
      rw [e1, e2]
      have ht := Lib.hid (tick_end h (by omega))
      rw [haf] at ht
      have hp : 0 < af := by omega
      clear h hka hbs hnk haf hvk hst e1 e2
      go_enter Try.func38, Try.ntmps38
      go_wp2_with fail
      go_ret
      exact ⟨rfl, A, ht.out, (Step.refl _ _).setCell _ _ _ (mem_foot_g G A)⟩

theorem boot_end {w : World} {B G : Nat} {A : Lies} {d : Dk} (h : IsDk w B G A d) : IsDk (w.setCell ⟨G, 0, none⟩ (.bool true)) B G A d.booted := by
  refine IsDkS.head h (A' := A) (d' := d.booted) (sn' := d.booted.seen) ?_ (fun k hk => ?_) (by simp [World.setCell]) rfl rfl (.inl ⟨rfl, rfl⟩) (.inl ⟨rfl, rfl⟩) (.inl ⟨rfl, rfl⟩) h.fine.booted rfl (fun i _ => rfl) (fun i _ => rfl)
  · rw [heap_setCell_same _ _ _ _ _ _ h.hdr]
    simp [hcells, Dk.booted]
  · rw [Below.heap_setCell _ _ _ _ hk]
theorem boot_any (w : World) (B : Nat) (G : Nat) (A : Lies) (d : Dk) (h : IsDk w B G A d) :
    Calls Try.prog 23 #[.pointer (some ⟨G, 0, none⟩)] w (GivesS (.int .i64 (if d.on then 19 else 0)) d.booted B G A w) := by
  have c0 := h.cell 0
  have f0 := h.frozen 0
  obtain ⟨on, hon⟩ : ∃ on, d.on = on := ⟨_, rfl⟩
  simp only [hcells, hon, List.getElem?_toArray, List.getElem?_cons_zero] at c0
  rw [hon]
  have h' := Lib.hid h
  have ht := Lib.hid (boot_end h)
  cases on
  · clear h hon
    go_enter Try.func23, Try.ntmps23
    go_wp2_with fail
    go_ret
    exact ⟨rfl, A, ht.out, (Step.refl _ _).setCell _ _ _ (mem_foot_g G A)⟩
  · have e : d.booted = d := by unfold Dk.booted; cases d; simp only at hon; subst hon; rfl
    rw [e]
    clear h hon e
    go_enter Try.func23, Try.ntmps23
    go_wp2_with fail
    go_ret
    exact ⟨rfl, A, h'.out, Step.refl _ _⟩

theorem arm_end {w w1 : World} {B G : Nat} {A : Lies} {d : Dk} {af : Nat} {K : List Bool} {v : Value} (h : IsDk w B G A d) (hB : B ≤ w.heap.size) (hk : w1.ownsRow w.heap.size 4 1 v K.length (kcells K)) (hb : Below w.heap.size w w1) (ha : af < 9223372036854775808) (hK : K.length ≤ 1000) :
    IsDk (((w1.setCell ⟨G, 6, none⟩ (.bool true)).setCell ⟨G, 7, none⟩ (.int .i64 (af : Int))).setCell ⟨G, 8, none⟩ v) B G ⟨A.f, A.s, A.vw, A.vl, v⟩ (d.armed af K)
      ∧ Step w (A.foot G) (((w1.setCell ⟨G, 6, none⟩ (.bool true)).setCell ⟨G, 7, none⟩ (.int .i64 (af : Int))).setCell ⟨G, 8, none⟩ v) ((⟨A.f, A.s, A.vw, A.vl, v⟩ : Lies).foot G) := by
  have h1 : IsDkS w1 B G A d d.seen := IsDkS.on h hb (Nat.le_refl _)
  have hvlt := World.ownsRow.lt hk
  obtain ⟨w2, hw2⟩ : ∃ w2, (((w1.setCell ⟨G, 6, none⟩ (.bool true)).setCell ⟨G, 7, none⟩ (.int .i64 (af : Int))).setCell ⟨G, 8, none⟩ v) = w2 := ⟨_, rfl⟩
  have hoth : ∀ k, k ≠ G → w2.heap[k]? = w1.heap[k]? := fun k hk => by
    rw [← hw2, Below.heap_setCell _ _ _ _ hk, Below.heap_setCell _ _ _ _ hk, Below.heap_setCell _ _ _ _ hk]
  have hsz : w2.heap.size = w1.heap.size := by rw [← hw2]; simp [World.setCell]
  have hG : w2.heap[G]? = some (.cells (hcells ⟨A.f, A.s, A.vw, A.vl, v⟩ (d.armed af K)) 59 (0, 0)) := by
    rw [← hw2, heap_setCell_same _ _ _ _ _ _ (heap_setCell_same _ _ _ _ _ _ (heap_setCell_same _ _ _ _ _ _ h1.hdr))]
    simp [hcells, Dk.armed]
  have hGlt := (h1.over G (mem_foot_g G A)).2
  have hG0 := (IsDkS.over h G (mem_foot_g G A)).2
  have hst : Step w1 (A.foot G) w2 (A.foot G) := by
    rw [← hw2]
    exact (((Step.refl _ _).setCell _ _ _ (mem_foot_g G A)).setCell _ _ _ (mem_foot_g G A)).setCell _ _ _ (mem_foot_g G A)
  rw [hw2]
  obtain ⟨e1, e2, e3⟩ := h1.gf
  constructor
  · refine ⟨h1.fine.armed ha hK, hG, h1.firm.block (hoth _ (Ne.symm e1)), h1.seen.block (hoth _ (Ne.symm e2)), ownsRow_block h1.waits (fun k hk => hoth k (h1.wOff (by simp [hk])).1), ownsRow_block h1.log (fun k hk => hoth k (h1.wOff (by simp [hk])).1), ?_, ?_, ?_⟩
    · have h3 := ownsRow_block (w' := w2) hk (fun k hk2 => hoth k (by have := (hvlt k hk2).1; omega))
      obtain ⟨q1, q2⟩ := h3
      refine ⟨q1, ?_⟩
      rcases q2 with q2 | ⟨g, cap, cur, e, hg, rest⟩
      · exact .inl q2
      · exact .inr ⟨g, cap, cur, e, Nat.le_trans hB hg, rest⟩
    · have hap := h1.apart
      simp only [Lies.foot, List.nodup_cons, List.mem_cons, List.mem_append, not_or, List.nodup_append] at hap ⊢
      have hov := fun k hk => (IsDkS.over h k hk).2
      have hnew : ∀ k, k ∈ v.ownBlock.toList → w.heap.size ≤ k := fun k hk => (hvlt k (by simpa using hk)).1
      have gw := hov G (mem_foot_g G A)
      have fw := hov A.f (mem_foot_f G A)
      have sw := hov A.s (mem_foot_s G A)
      refine ⟨⟨hap.1.1, hap.1.2.1, hap.1.2.2.1, hap.1.2.2.2.1, fun h => by have := hnew _ h; omega⟩, ⟨hap.2.1.1, hap.2.1.2.1, hap.2.1.2.2.1, fun h => by have := hnew _ h; omega⟩, ⟨hap.2.2.1.1, hap.2.2.1.2.1, fun h => by have := hnew _ h; omega⟩, hap.2.2.2.1, ⟨hap.2.2.2.2.1.1, ?_, ?_⟩, ?_⟩
      · cases v.ownBlock <;> simp
      · intro a ha b hb e
        have := hnew b hb
        have := hov a (by simp [Lies.foot]; right; right; right; right; left; simpa using ha)
        omega
      · intro a ha b hb e
        rcases hb with hb | hb
        · exact hap.2.2.2.2.2 a ha b (.inl hb) e
        · have := hnew b hb
          have := hov a (by simp [Lies.foot]; right; right; right; left; simpa using ha)
          omega
    · intro k hk2
      simp only [Lies.foot, List.mem_cons, List.mem_append] at hk2
      rw [hsz]
      rcases hk2 with h | h | h | h | h | h
      · exact h1.over k (by simp [Lies.foot, h])
      · exact h1.over k (by simp [Lies.foot, h])
      · exact h1.over k (by simp [Lies.foot, h])
      · exact h1.over k (by simp only [Lies.foot, List.mem_cons, List.mem_append]; exact .inr (.inr (.inr (.inl h))))
      · exact h1.over k (by simp only [Lies.foot, List.mem_cons, List.mem_append]; exact .inr (.inr (.inr (.inr (.inl h)))))
      · have := hvlt k (by simpa using h); omega
  · have hs1 : Step w (A.foot G) w2 (A.foot G) := (Step.of_below hb _).trans hst
    refine ⟨hs1.os, hs1.tape, hs1.output, hs1.size, hs1.block, fun k hk2 => ?_⟩
    simp only [Lies.foot, List.mem_cons, List.mem_append] at hk2 ⊢
    rcases hk2 with h | h | h | h | h | h
    · exact .inl (.inl h)
    · exact .inl (.inr (.inl h))
    · exact .inl (.inr (.inr (.inl h)))
    · exact .inl (.inr (.inr (.inr (.inl h))))
    · exact .inl (.inr (.inr (.inr (.inr (.inl h)))))
    · exact .inr (hvlt k (by simpa using h)).1

set_option maxHeartbeats 400000 in
theorem arm_any (w : World) (B : Nat) (G : Nat) (A : Lies) (d : Dk) (h : IsDk w B G A d) (hB : B ≤ w.heap.size) (hon : d.on = true) (af : Nat) (ha : af < 9223372036854775808) (ka : Option Addr) (nk kcap : Nat) (K : List Bool) (hK : K.length = nk) (hkb : nk ≤ 1000) (hka : KAt w ka K) (hnil : ka = none → kcap = 0) :
    Calls Try.prog 31 #[.pointer (some ⟨G, 0, none⟩), .int .i64 (af : Int), .slice ka nk kcap] w (GivesS (.int .i64 0) (d.armed af K) B G A w) := by
  have h' := Lib.hid h
  have hon' := Lib.hid hon
  have hK' := Lib.hid hK
  have hka' := Lib.hid hka
  have hnil' := Lib.hid hnil
  clear h hon hK hka hnil
  have hB' := Lib.hid hB
  have hGl := Lib.hid (IsDkS.over h'.out G (mem_foot_g G A)).2
  go_enter Try.func31, Try.ntmps31
  go_wp2_with (first
    | (go_at_call 40; refine (powered_any _ B G A d h'.out).mono ?_; rw [hon'.out]; rintro e w1 ⟨rfl, rfl⟩)
    | (go_at_call 41; refine (clone_k ka kcap nk K _ hK'.out (by omega) hka'.out hnil'.out).mono ?_; rintro e w1 ⟨v1, rfl, ho1, hb1⟩; obtain ⟨a1, cap1, rfl, _, _⟩ := own_form ho1; have O1 := Lib.hid ho1; have B1 := Lib.hid hb1; have D1 := Lib.hid (IsDkS.on h'.out hb1 (Nat.le_refl _)); have c6 := D1.out.cell 6; have c7 := D1.out.cell 7; have c8 := D1.out.cell 8; have f6 := D1.out.frozen 6; have f7 := D1.out.frozen 7; have f8 := D1.out.frozen 8; simp only [hcells, List.getElem?_toArray, List.getElem?_cons_zero, List.getElem?_cons_succ] at c6 c7 c8; clear ho1 hb1))
  go_ret
  obtain ⟨h1, h2⟩ := arm_end h'.out hB'.out O1.out B1.out ha (by rw [hK'.out]; exact hkb)
  exact ⟨rfl, _, h1, h2⟩
end Go.Proofs.Ytmaodnidodoadaa
