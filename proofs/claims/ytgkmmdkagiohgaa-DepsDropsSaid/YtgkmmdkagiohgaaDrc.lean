/-
  A graph: one is taken out of a set of a node.
-/
import Derived.Test.YtgkmmdkagiohgaaDrb
set_option linter.unusedVariables false
set_option linter.unusedSimpArgs false
namespace Go.Proofs.Ytgkmmdkagiohgaa
open Go.RowKit BigFrame
set_option maxRecDepth 100000
variable {w w' : World} {B a M : Nat} {G : Gr} {ρ : Nat → Nat}

open Classical in
theorem GrMem.lay {i q : Nat} {L : List Nat} (h : GrMem w B a M G) (hi : i ∈ G.ids) (hq : q < 2) (hT : TurnS (fun k => k = G.nb i ∨ InS (G.s i q) (G.m i q) k) w w') {s' m' : Value}
    (hV : Vw w' 54 (G.nb i) (((rowN i (G.s i) (G.m i)).set (1 + 2 * q) s').set (1 + 2 * q + 1) m')) (hS : SetIs w' B G.nb s' m' L) (hn : ∀ k, InS s' m' k → InS (G.s i q) (G.m i q) k ∨ w.heap.size ≤ k) :
    GrMem w' B a M (G.put i q L s' m' w.heap.size) := by
  have hrole : ∀ k r, G.own k = some r → r ≠ 5 * i → r ≠ 5 * i + 1 + q → ¬ (k = G.nb i ∨ InS (G.s i q) (G.m i q) k) := by
    intro k r hk h1 h2 h3
    rcases h3 with rfl | h3
    · have := (h.rn i hi).symm.trans hk; exact h1 (Option.some.inj this).symm
    · have := (h.rs i hi q hq k h3).symm.trans hk; exact h2 (Option.some.inj this).symm
  have hpi := h.pos i hi
  have hold : ∀ k r, G.own k = some r → (G.put i q L s' m' w.heap.size).own k = some r := by
    intro k r hk
    show (if _ then _ else _) = _
    rw [if_neg (fun hh => by have := (h.hi k r hk).2; omega)]
    exact hk
  obtain ⟨l, t1, t2⟩ := h.tab
  refine ⟨h.box.turnS hT (hrole a 0 h.rb (by omega) (by omega)), ⟨l, t1.blk (hT.block M (h.hi _ _ h.rM).2 (hrole M 1 h.rM (by omega) (by omega))), t2⟩, fun j hj => ?_, fun j hj p hp => ?_, hold _ _ h.rb, hold _ _ h.rM, fun j hj => hold _ _ (h.rn j hj), fun j hj p hp k hk => ?_, fun k r hk => ?_, Nat.le_trans h.lo hT.size, h.pos, h.nd, h.few⟩
  · by_cases e : j = i
    · subst e
      rw [rowN_set hq] at hV
      exact hV
    · show Vw w' _ (G.nb j) (rowN j (up2 G.s i q s' j) (up2 G.m i q m' j))
      rw [rowN_off e]
      have hpj := h.pos j hj
      exact (h.row j hj).turnS hT (hrole _ _ (h.rn j hj) (by omega) (by omega))
  · by_cases e : j = i ∧ p = q
    · obtain ⟨rfl, rfl⟩ := e
      show SetIs w' B G.nb (up2 G.s j p s' j p) (up2 G.m j p m' j p) (if p = p ∧ j = j then _ else _)
      rw [up2_at, up2_at, if_pos ⟨rfl, rfl⟩]
      exact hS
    · show SetIs w' B G.nb (up2 G.s i q s' j p) (up2 G.m i q m' j p) (if p = q ∧ j = i then _ else _)
      rw [up2_off _ _ e, up2_off _ _ e, if_neg (fun hh => e ⟨hh.2, hh.1⟩)]
      refine (h.set j hj p hp).turn hT fun k hk => hrole k _ (h.rs j hj p hp k hk) (by omega) (by omega)
  · by_cases e : j = i ∧ p = q
    · obtain ⟨rfl, rfl⟩ := e
      have hk' : InS s' m' k := by
        have hk2 : InS (up2 G.s j p s' j p) (up2 G.m j p m' j p) k := hk
        rwa [up2_at, up2_at] at hk2
      rcases hn k hk' with h1 | h1
      · exact hold k _ (h.rs j hj p hp k h1)
      · show (if _ then _ else _) = _
        rw [if_pos ⟨h1, hk'⟩]
    · have hk2 : InS (up2 G.s i q s' j p) (up2 G.m i q m' j p) k := hk
      rw [up2_off _ _ e, up2_off _ _ e] at hk2
      exact hold k _ (h.rs j hj p hp k hk2)
  · have hk2 : (if w.heap.size ≤ k ∧ InS s' m' k then some (5 * i + 1 + q) else G.own k) = some r := by
      have : (G.put i q L s' m' w.heap.size).own k = some r := hk
      exact this
    by_cases e : w.heap.size ≤ k ∧ InS s' m' k
    · exact hS.block k e.2
    · rw [if_neg e] at hk2
      have := h.hi k r hk2
      exact ⟨this.1, Nat.lt_of_lt_of_le this.2 hT.size⟩

structure UnPost (B a M : Nat) (G : Gr) (j q x : Nat) (w : World) (e : Ending) (w' : World) (G' : Gr) : Prop where
  ret : e = .returned (.tuple #[])
  gr : GrMem w' B a M G'
  step : GStep w G w' G'
  ids : G'.ids = G.ids
  nb : G'.nb = G.nb
  mem : ∀ y, y ∈ G'.lk q j ↔ y ∈ G.lk q j ∧ y ≠ x
  oth : ∀ p i, ¬ (p = q ∧ i = j) → G'.lk p i = G.lk p i ∧ G'.s i p = G.s i p ∧ G'.m i p = G.m i p
open Classical in
theorem unlink_c {j q x : Nat} (h : GrMem w B a M G) (hj : j ∈ G.ids) (hq : q < 2) (hx : x ∈ G.lk q j) (hin : ∀ y ∈ G.lk q j, y ∈ G.ids ∧ y ≠ j) :
    Calls Try.prog 35 #[.pointer (some ⟨G.nb j, 1 + 2 * q, none⟩), .pointer (some ⟨G.nb x, 0, none⟩)] w (fun e w' => ∃ G', UnPost B a M G j q x w e w' G') := by
  have hpj := h.pos j hj
  obtain ⟨hxi, hxj⟩ := hin x hx
  have hs := h.set j hj q hq
  have hne : ∀ {p k : Nat}, p ∈ G.ids → InS (G.s j q) (G.m j q) k → G.nb p ≠ k := by
    intro p k hp hk e
    have h1 := h.rs j hj q hq k hk
    have h2 := h.rn p hp
    have h4 := h.pos p hp
    rw [← e, h2] at h1
    have := Option.some.inj h1
    omega
  have hnn : ∀ {p : Nat}, p ∈ G.ids → p ≠ j → G.nb p ≠ G.nb j := by
    intro p hp hpj e
    have h1 := h.rn j hj
    have h2 := h.rn p hp
    rw [e, h1] at h2
    have := Option.some.inj h2
    omega
  have hlen : (G.lk q j).length ≤ 500 := Nat.le_trans (nodup_sub hs.one fun y hy => (hin y hy).1) h.few
  obtain ⟨p, hp0, hpl, hp⟩ := ix_some hx
  obtain ⟨e, he⟩ : ∃ e, (G.lk q j).length = e + 1 := ⟨(G.lk q j).length - 1, by omega⟩
  obtain ⟨z, hz⟩ : ∃ z, (G.lk q j)[e]? = some z := ⟨(G.lk q j)[e]'(by omega), List.getElem?_eq_getElem _⟩
  obtain ⟨hzi, hzj⟩ := hin z (List.mem_of_getElem? hz)
  obtain ⟨ad, cap, hsv, _, hnil, had⟩ := hs.sl.slice
  cases ad with
  | none => rw [hnil rfl] at hx; cases hx
  | some ad =>
    obtain ⟨g, rfl, hob, _, _, _⟩ := had ad rfl
    rcases hs.mp with ⟨_, h2⟩ | ⟨m, l, hmv, _⟩
    · rw [h2] at hx; cases hx
    · rw [he] at hsv
      have hb0 := hs
      rw [hsv, hmv] at hb0
      have hig : InS (G.s j q) (G.m j q) g := .inl hob
      have him : InS (G.s j q) (G.m j q) m := .inr hmv
      refine (remove_c (x := x) (z := z) (p := p) (e := e) (C := rowN j (G.s j) (G.m j)) (h.row j hj) (by rw [rowN_s hq, hsv]) (by rw [rowN_m hq, hmv]) hb0 he hp hz (hne hj hig) (hne hj him) (by have := h.pos x hxi; omega) (by have := h.pos z hzi; omega) (by omega)
        (h.row x hxi) rfl (h.row z hzi) rfl (hnn hxi hxj) (hne hxi hig) (hne hxi him) (hnn hzi hzj) (hne hzi hig) (hne hzi him)).mono fun en w' hr => ?_
      obtain ⟨hret, hT, sl', hV, hS, hn⟩ := hr
      rw [← hsv, ← hmv] at hT hn
      have hz' : (G.lk q j)[(G.lk q j).length - 1]? = some z := by rw [he]; exact hz
      have hV2 : Vw w' 54 (G.nb j) (((rowN j (G.s j) (G.m j)).set (1 + 2 * q) sl').set (1 + 2 * q + 1) (.map (some m))) := by
        rw [set_same (k := 1 + 2 * q + 1) (by rw [List.getElem?_set_ne (by omega), rowN_m hq, hmv])]
        exact hV
      have hn2 : ∀ k, InS sl' (.map (some m)) k → InS (G.s j q) (G.m j q) k ∨ w.heap.size ≤ k := fun k hk => .inl (hn k (by rw [hmv]; exact hk))
      refine ⟨_, hret, h.lay hj hq hT hV2 hS hn2, ⟨hT.mono ?_, ?_, ?_⟩, rfl, rfl, fun y => ?_, fun p' i' hpi => ⟨if_neg hpi, up2_off _ _ (fun hh => hpi ⟨hh.2, hh.1⟩), up2_off _ _ (fun hh => hpi ⟨hh.2, hh.1⟩)⟩⟩
      · rintro k _ (rfl | hk)
        · exact ⟨_, h.rn j hj⟩
        · exact ⟨_, h.rs j hj q hq k hk⟩
      · intro k r hk
        show (if _ then _ else _) = _
        rw [if_neg (fun hh => by have := (h.hi k r hk).2; omega)]
        exact hk
      · intro k r hk
        have hk2 : (if w.heap.size ≤ k ∧ InS sl' (.map (some m)) k then some (5 * j + 1 + q) else G.own k) = some r := hk
        by_cases e : w.heap.size ≤ k ∧ InS sl' (.map (some m)) k
        · exact .inr e.1
        · rw [if_neg e] at hk2; exact .inl hk2
      · show y ∈ (if q = q ∧ j = j then remL (G.lk q j) p z else _) ↔ _
        rw [if_pos ⟨rfl, rfl⟩]
        exact remL_mem hs.one hp hz' y
end Go.Proofs.Ytgkmmdkagiohgaa
