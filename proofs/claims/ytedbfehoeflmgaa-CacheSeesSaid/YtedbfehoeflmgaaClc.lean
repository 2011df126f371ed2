/-
  What is pinned stays: in lists.
-/
import Derived.Test.YtedbfehoeflmgaaB18
set_option linter.unusedVariables false
set_option linter.unusedSimpArgs false
namespace Go.Proofs.Ytedbfehoeflmgaa
open Go.RowKit BigFrame
set_option maxRecDepth 100000

theorem dropN_keep : ∀ {H : List Sx} {n : Nat} {x : Sx}, x ∈ H → ¬ x.free = true → x ∈ dropN H n
  | [], _, _, h, _ => by simp at h
  | a :: r, n, x, h, hf => by
    rw [dropN]
    split
    · rename_i hc
      rcases List.mem_cons.1 h with e | h
      · subst e; exact absurd hc.1 hf
      · exact dropN_keep h hf
    · rcases List.mem_cons.1 h with e | h
      · rw [e]; exact List.mem_cons_self
      · exact List.mem_cons_of_mem _ (dropN_keep h hf)
theorem nw_mem {H : List Sx} {x y : Sx} : y ∈ nw H x ↔ (y ∈ H ∧ y.pos ≠ x.pos) ∨ y = x := by
  unfold nw
  rw [List.mem_append, List.mem_filter, List.mem_singleton]
  simp
theorem nw_apart {H : List Sx} (h : Apart H) (x : Sx) : Apart (nw H x) := by
  show ((H.filter _ ++ [x]).map Sx.pos).Nodup
  rw [List.map_append, List.nodup_append]
  refine ⟨h.sublist (List.filter_sublist.map _), by simp, fun a ha b hb e => ?_⟩
  simp at hb
  subst hb
  obtain ⟨y, hy, e2⟩ := List.mem_map.1 ha
  have := (List.mem_filter.1 hy).2
  simp at this
  omega
theorem fr_one {q : Nat} : ∀ {L : List Sx}, Apart L → (∀ y ∈ L, ¬ y.free = true → y.pos = q) → L.length ≤ (fr L).length + 1
  | [], _, _ => by simp
  | a :: r, hA, h => by
    have hA' : (a.pos :: r.map Sx.pos).Nodup := hA
    obtain ⟨h1, h2⟩ := List.nodup_cons.1 hA'
    rw [fr_cons]
    by_cases ha : a.free = true
    · rw [if_pos ha]
      have := fr_one (q := q) (L := r) h2 fun y hy => h y (List.mem_cons_of_mem _ hy)
      simp only [List.length_cons]; omega
    · rw [if_neg ha]
      have hq := h a List.mem_cons_self ha
      have e : fr r = r := by
        unfold fr
        rw [List.filter_eq_self]
        intro y hy
        by_cases hf : y.free = true
        · exact hf
        · exact absurd (List.mem_map.2 ⟨y, hy, (h y (List.mem_cons_of_mem _ hy) hf).trans hq.symm⟩) h1
      rw [e]; simp
/-- one is pinned, q; the others are neither dirty nor pinned; as many as may be -/
structure PinIn (m q : Nat) (H : List Sx) : Prop where
  one : ∃ x ∈ H, x.pos = q ∧ x.pin = true
  clean : ∀ x ∈ H, x.dirty = false
  oth : ∀ x ∈ H, x.pos ≠ q → x.pin = false
  few : H.length ≤ max m 1
theorem trim_len {m : Nat} {L : List Sx} (h : L.length ≤ (fr L).length + 1) : (trim m L).length ≤ max m 1 := by
  unfold trim
  rw [dropN_len]
  have : (fr L).length ≤ L.length := (fr_sub L).length_le
  omega
theorem PinIn.get {m q s : Nat} {H : List Sx} (h : PinIn m q H) (hA : Apart H) (b u : Nat) (l : List Nat) : PinIn m q (trim m (nw H ⟨b, s, l, u, false, decide (s = q)⟩)) := by
  have hm := fun y => nw_mem (H := H) (x := ⟨b, s, l, u, false, decide (s = q)⟩) (y := y)
  have hc : ∀ y ∈ nw H ⟨b, s, l, u, false, decide (s = q)⟩, y.dirty = false := fun y hy => by
    rcases (hm y).1 hy with ⟨h1, _⟩ | e
    · exact h.clean y h1
    · rw [e]
  have ho : ∀ y ∈ nw H ⟨b, s, l, u, false, decide (s = q)⟩, y.pos ≠ q → y.pin = false := fun y hy hq => by
    rcases (hm y).1 hy with ⟨h1, _⟩ | e
    · exact h.oth y h1 hq
    · subst e
      exact decide_eq_false hq
  have hsub := trim_sub m (nw H ⟨b, s, l, u, false, decide (s = q)⟩)
  refine ⟨?_, fun y hy => hc y (hsub.subset hy), fun y hy => ho y (hsub.subset hy), trim_len (fr_one (q := q) (nw_apart hA _) fun y hy hf => ?_)⟩
  · have : ∃ x ∈ nw H ⟨b, s, l, u, false, decide (s = q)⟩, x.pos = q ∧ x.pin = true := by
      by_cases e : s = q
      · exact ⟨_, (hm _).2 (.inr rfl), e, decide_eq_true e⟩
      · obtain ⟨x, hx, h1, h2⟩ := h.one
        exact ⟨x, (hm x).2 (.inl ⟨hx, fun e2 => e (by rw [← h1]; exact e2.symm)⟩), h1, h2⟩
    obtain ⟨x, hx, h1, h2⟩ := this
    exact ⟨x, dropN_keep hx (by unfold Sx.free; rw [h2]; simp), h1, h2⟩
  · by_cases hq : y.pos = q
    · exact hq
    · exfalso
      apply hf
      unfold Sx.free
      rw [hc y hy, ho y hy hq]; rfl
/-- all may go -/
def AllF (H : List Sx) : Prop := ∀ x ∈ H, x.free = true
theorem AllF.fr {H : List Sx} (h : AllF H) : Go.Proofs.Ytedbfehoeflmgaa.fr H = H := by
  unfold Go.Proofs.Ytedbfehoeflmgaa.fr
  rw [List.filter_eq_self]; exact h
theorem AllF.drop {H : List Sx} (h : AllF H) (n : Nat) : dropN H n = H.drop n := by
  have h1 : AllF (dropN H n) := fun x hx => h x ((dropN_sub H n).subset hx)
  rw [← h1.fr, dropN_fr, h.fr]
theorem PinIn.off {m q : Nat} {H : List Sx} (h : PinIn m q H) (hA : Apart H) {x : Sx} (hx : x ∈ H) (hq : x.pos = q) (hs : Srt H) : AllF (putS (x.withP false) H) := fun y hy => by
  rcases put_mem hy with e | ⟨hy, hne⟩
  · rw [e]
    show (!x.dirty && !false) = true
    rw [h.clean x hx]; rfl
  · unfold Sx.free
    have hyq : y.pos ≠ q := fun e => hne (by rw [hA.uniq hy hx (e.trans hq.symm)]; rfl)
    rw [h.clean y hy, h.oth y hy hyq]; rfl
section
variable {w0 w w' : World} {c c' : Ck} {A A' : Lies} {d d' : Dk} {C G m u : Nat} {H H' : List Sx}
/-- a Get of any sector, where one is pinned -/
theorem getv_pin (h : Cv w0 w A d c C G m u H) (hm : m ≤ 100000) (hu : u < 100000) {q s : Nat} (hP : PinIn m q H) (hs : s < d.n) (hon : d.on = true) :
    Calls Try.prog 26 #[.pointer (some ⟨C, 0, none⟩), .int .i64 (s : Int)] w fun e w' => ∃ v c' H', e = .returned (.tuple #[v, .int .i64 0]) ∧ Cv w0 w' A d c' C G m (u + 1) H' ∧ PinIn m q H' := by
  cases hg : get H (s : Int) with
  | none =>
    have hsq : s ≠ q := fun e => by
      obtain ⟨x, hx, h1, _⟩ := hP.one
      exact get_none hg x hx (by rw [h1, e])
    refine (getv_miss h hm hu hg hon hs rfl).mono ?_
    rintro e w' ⟨v, c', b, rfl, hC, _⟩
    have := hP.get h.pos (s := s) b (u + 1) (d.seen s)
    rw [decide_eq_false hsq] at this
    exact ⟨v, c', _, rfl, hC, this⟩
  | some x =>
    obtain ⟨hx, hp⟩ := get_some hg
    refine (getv_hit h hm hu hx hp.symm).mono ?_
    rintro e w' ⟨v, c', b, rfl, hC, _⟩
    have := hP.get h.pos (s := x.pos) b (u + 1) x.b
    have hd : x.pin = decide (x.pos = q) := by
      by_cases e : x.pos = q
      · obtain ⟨y, hy, h1, h2⟩ := hP.one
        rw [h.pos.uniq hx hy (e.trans h1.symm), h2, decide_eq_true h1]
      · rw [hP.oth x hx e, decide_eq_false e]
    rw [hP.clean x hx, hd] at hC
    exact ⟨v, c', _, rfl, hC, this⟩
end
end Go.Proofs.Ytedbfehoeflmgaa
