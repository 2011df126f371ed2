/-
  Two lists of sectors' bytes beside one disk; one is copied over the other.
-/
import Derived.Test.YtabjhjipnpfnbaaWn
namespace Go.Proofs.Ytabjhjipnpfnbaa
open Go.RowKit BigFrame

theorem Wants.other {w : World} {F : List Nat} {base gf gl N k j : Nat} {X : Nat → List Nat} (h : Wants w (F ++ [gl]) base gf N k X) (v : Value) : Wants (w.setCell ⟨gl, j, none⟩ v) (F ++ [gl]) base gf N k X :=
  h.step ((Step.refl _ _).setCell _ _ _ (by simp))
theorem Kept.swap {w : World} {F : List Nat} {gf gl : Nat} {v : Value} {X : List Nat} (h : Kept w (F ++ [gf]) gl v X) : Kept w (F ++ [gl]) gf v X := by
  obtain ⟨g, cap, e, hc, hl, hx, ho, hne⟩ := h
  refine ⟨g, cap, e, hc, hl, hx, ⟨fun h => ?_, ho.2⟩, fun e2 => ho.1 (by simp [e2])⟩
  rcases List.mem_append.1 h with h | h
  · exact ho.1 (List.mem_append_left _ h)
  · simp at h; exact hne h
theorem row_kept2 {w w2 : World} {M : List Nat} {gw r : Nat} (hM : ∀ k ∈ M, k < w.heap.size) (hgw : gw < w.heap.size) (hr : w.heap.size ≤ r) (h : Row w2 r (zs 128)) : Kept w2 M gw (.slice (some ⟨r, 0, none⟩) 128 128) (zs 128) :=
  ⟨r, 128, rfl, Nat.le_refl _, zs_length 128, h.bat, ⟨fun e => by have := hM _ e; omega, h.lt⟩, by omega⟩
theorem Step.wide {w w' : World} {F F' : List Nat} (h : Step w F w' F') (R : List Nat) : Step w (R ++ F) w' (R ++ F') :=
  ⟨h.os, h.tape, h.output, h.size, fun k hk hf => h.block k hk (fun e => hf (List.mem_append_right _ e)), fun k hk => by
    rcases List.mem_append.1 hk with hk | hk
    · exact .inl (List.mem_append_left _ hk)
    · exact (h.foot k hk).imp (List.mem_append_right _) id⟩
/-- one block beside the disk turns -/
theorem Live.one {w0 w w' : World} {G g : Nat} {A : Lies} {d : Dk} (h : Live w0 w G A d) (hs : Step w [g] w' [g]) (ho : Off w (A.foot G) g) (hg : w0.heap.size ≤ g) : Live w0 w' G A d :=
  ⟨h.below.trans (hs.below h.below.size (fun k hk => by simp at hk; omega)), IsDkS.carry h.disk hs.size (fun k hk => hs.block k (h.lt k hk) (fun e => by simp at e; subst e; exact ho.1 hk))⟩
/-- the two lists grow by a row each -/
theorem two_push {w w2 : World} {F : List Nat} {base gf gl N k r1 r2 : Nat} {X Y : Nat → List Nat} (h1 : Wants w (F ++ [gl]) base gf N k X) (h2 : Wants w (F ++ [gf]) base gl N k Y) (hF : ∀ j ∈ F, j < w.heap.size) (hb : Below w.heap.size w w2) (hr1 : w.heap.size ≤ r1) (hr2 : w.heap.size ≤ r2)
    (q1 : Row w2 r1 (zs 128)) (q2 : Row w2 r2 (zs 128)) (e1 : X k = zs 128) (e2 : Y k = zs 128) :
    Wants ((w2.setCell ⟨gf, k, none⟩ (.slice (some ⟨r1, 0, none⟩) 128 128)).setCell ⟨gl, k, none⟩ (.slice (some ⟨r2, 0, none⟩) 128 128)) (F ++ [gl]) base gf N (k + 1) X ∧
      Wants ((w2.setCell ⟨gf, k, none⟩ (.slice (some ⟨r1, 0, none⟩) 128 128)).setCell ⟨gl, k, none⟩ (.slice (some ⟨r2, 0, none⟩) 128 128)) (F ++ [gf]) base gl N (k + 1) Y := by
  have hf := h1.off.1.2
  have hl := h2.off.1.2
  have k1 : ∀ j ∈ F ++ [gl], j < w.heap.size := fun j hj => by
    rcases List.mem_append.1 hj with h | h
    · exact hF j h
    · simp at h; omega
  have k2 : ∀ j ∈ F ++ [gf], j < w.heap.size := fun j hj => by
    rcases List.mem_append.1 hj with h | h
    · exact hF j h
    · simp at h; omega
  constructor
  · refine Wants.other (Wants.push (h1.below hb) ?_) _
    rw [e1]; exact row_kept2 k1 hf hr1 q1
  · refine Wants.push (Wants.other (h2.below hb) _) ?_
    rw [e2]
    have := row_kept2 k2 hl hr2 q2
    exact this.step ((Step.refl _ _).setCell _ _ _ (by simp))
/-- the one is copied over the other -/
theorem two_copied {w : World} {F : List Nat} {base gf gl N : Nat} {X Y : Nat → List Nat} (h1 : Wants w (F ++ [gl]) base gf N N X) (h2 : Wants w (F ++ [gf]) base gl N N Y) :
    ∃ (c : Array Value) (cs : List Value), w.heap[gf]? = some (.cells c 43 (0, 0)) ∧ c.size = N ∧ cs.length = N ∧ (∀ v ∈ cs, v.oneCell' = true) ∧ (∀ j v, cs[j]? = some v → w.cell? ((⟨gl, 0, none⟩ : Addr).add j) = some v) ∧
      ∀ c', c' = cs.toArray → Wants (w.setRow gf c') (F ++ [gl]) base gf N N Y ∧ Wants (w.setRow gf c') (F ++ [gf]) base gl N N Y ∧ Step w [gf] (w.setRow gf c') [gf] := by
  have h1' := h1
  have h2' := h2
  obtain ⟨V1, ⟨c1, hh1, hn1, _⟩, ho1, hb1, _⟩ := h1
  obtain ⟨V2, hr2, ho2, hb2, hk2⟩ := h2
  have hs0 : ∀ c', Step w [gf] (w.setRow gf c') [gf] := fun c' =>
    ⟨rfl, rfl, rfl, by simp, fun k _ hk => setRow_other w gf k _ (fun e => hk (by simp [e])), fun k hk => .inl hk⟩
  have hst : ∀ c', Step w (F ++ [gf]) (w.setRow gf c') (F ++ [gf]) := fun c' => (hs0 c').wide F
  refine ⟨c1, (List.range N).map V2, hh1, hn1, by simp, ?_, ?_, ?_⟩
  · intro v hv
    obtain ⟨i, hi, rfl⟩ := List.mem_map.1 hv
    obtain ⟨g, cap, e, _⟩ := hk2 i (List.mem_range.1 hi)
    rw [e]; rfl
  · intro j v hv
    have hj : j < N := by have := (List.getElem?_eq_some_iff.1 hv).1; simpa using this
    have e : v = V2 j := by
      simp [hj] at hv; exact hv.symm
    rw [addr_add, Nat.zero_add, e]; exact hr2.cell hj
  · intro c' hc'
    refine ⟨⟨V2, ⟨c', setRow_heap w gf _ _ _ _ hh1, by rw [hc']; simp, fun i hi => by rw [hc']; simp [hi]⟩, ⟨ho1.1, by simpa using ho1.2⟩, hb1, fun i hi => ?_⟩, h2'.step (hst c'), hs0 c'⟩
    exact Kept.swap ((hk2 i hi).step (hst c'))
theorem wpList_copy_wants {w : World} {ops : Array Oper} {rest : List Oper} {o : Oper} {a : Act} {Q : Exit → Act → World → Prop} (hgd : o.guard = none) (dd ss : Operand)
    (ho : o.op = .call { callee := .builtin .copy, args := #[dd, ss], argTypes := #[32, 32] }) (F : List Nat) (base gf gl N : Nat) (X Y : Nat → List Nat)
    (hd : a.eval dd = .slice (some ⟨gf, 0, none⟩) N N) (hs : a.eval ss = .slice (some ⟨gl, 0, none⟩) N N) (h1 : Wants w (F ++ [gl]) base gf N N X) (h2 : Wants w (F ++ [gf]) base gl N N Y)
    (h : ∀ w', Hid (Wants w' (F ++ [gl]) base gf N N Y ∧ Wants w' (F ++ [gf]) base gl N N Y ∧ Step w [gf] w' [gf]) → wpList Try.prog ops Q rest (a.put o.dst (goInt N)) w') : wpList Try.prog ops Q (o :: rest) a w := by
  obtain ⟨c, cs, hh, hc, hcs, h1c, hsrc, hfin⟩ := two_copied h1 h2
  obtain ⟨i, hi, hz0, hz1, hz2⟩ := info_parts Try.infoP
  have e : (c.toList.take 0 ++ (cs ++ c.toList.drop (0 + cs.length))).toArray = cs.toArray := by
    rw [List.take_zero, List.nil_append, List.drop_of_length_le (by simp [hc, hcs]), List.append_nil]
  refine wpList_copy_own hgd dd ss _ _ ho 43 Try.underlying32 (by rw [hi]; simp [hz1]) gf 0 N N ⟨gl, 0, none⟩ N N hd hs c _ hh cs (by simp [hcs]) hsrc (by omega) h1c ?_
  rw [hcs] at *
  exact h _ (hfin _ (by rw [← hcs]; exact e))
end Go.Proofs.Ytabjhjipnpfnbaa
