/-
  A node made, left, its bytes turned; places turned; what is found can be reached from the root.
  mkdir, link.
-/
import Derived.Test.YtgcodlicbdaddaaGreatDoorB22
import Derived.Test.YtgcodlicbdaddaaGreatDoorB16
import Derived.Test.YtgcodlicbdaddaaGreatDoorB17
import Derived.Test.YtgcodlicbdaddaaGreatDoorB29
import Derived.Test.YtgcodlicbdaddaaGreatDoorB21

section
set_option linter.unusedVariables false
set_option linter.unusedSimpArgs false
namespace Go.Proofs.YtgcodlicbdaddaaGreatDoor

section
variable {b : Nat} {s : Tr} {E : Nat → Prop}
theorem Tr.make_refs (s : Tr) (x : Nd) (h0 : x.ents = []) (j : Nat) : refsL j (s.make x).nd = refsL j s.nd := by
  show refsL j (s.nd ++ [some x]) = _
  rw [refsL_append]
  show refsL j s.nd + refsE j x.ents = _
  rw [h0]; rfl
theorem OkE.make (h : OkE b s E) {x : Nd} (hx : NodeOk b x) (h0 : x.links = 0) (h1 : x.ents = []) (h2 : x.up = 0) : OkE (b + 1) (s.make x) fun j => E j ∨ j = s.nd.length := by
  have hop := Tr.opt_make s x
  have h' := h.mono (Nat.le_succ b)
  have hold : ∀ {j z}, s.opt j = some z → (s.make x).opt j = some z := fun {j z} hz => by rw [hop, if_neg (by have := Tr.opt_lt hz; omega)]; exact hz
  have hnew : ∀ {j z}, (s.make x).opt j = some z → (j = s.nd.length ∧ z = x) ∨ s.opt j = some z := fun {j z} hz => by
    rw [hop] at hz
    by_cases e : j = s.nd.length
    · rw [if_pos e] at hz; exact .inl ⟨e, (Option.some.inj hz).symm⟩
    · rw [if_neg e] at hz; exact .inr hz
  have hl := h.len
  refine ⟨?_, ?_, ?_, fun j z hz => ?_, fun j z hz e he => ?_, fun j z hz hu => ?_, ?_, fun j z hz => ?_, fun j z hz k2 k3 hu => ?_, fun j z hz hk => ?_, ?_⟩
  · obtain ⟨r1, r2, r3⟩ := h.root
    obtain ⟨z, hz⟩ := Option.ne_none_iff_exists'.1 r1
    rw [Tr.at_of hz] at r2 r3
    have hz' := hold hz
    exact ⟨by rw [hz']; exact Option.some_ne_none _, by rw [Tr.at_of hz']; exact r2, by rw [Tr.at_of hz']; exact r3⟩
  · rw [hop, if_neg (by omega)]; exact h.zero
  · show 2 ≤ (s.nd ++ [some x]).length ∧ (s.nd ++ [some x]).length ≤ b + 1 + 2
    rw [List.length_append, List.length_singleton]; omega
  · rcases hnew hz with ⟨_, rfl⟩ | hz
    · exact hx.mono (Nat.le_succ b)
    · exact h'.each j z hz
  · rcases hnew hz with ⟨_, rfl⟩ | hz
    · rw [h1] at he; cases he
    · obtain ⟨v, hv, hv2⟩ := h.ent j z hz e he
      exact ⟨v, hold hv, hv2⟩
  · rcases hnew hz with ⟨_, rfl⟩ | hz
    · exact absurd h2 hu
    · obtain ⟨v, hv, hv2⟩ := h.up j z hz hu
      exact ⟨v, hold hv, hv2⟩
  · obtain ⟨f, hf⟩ := h.dep
    refine ⟨f, fun j z hz hu => ?_⟩
    rcases hnew hz with ⟨_, rfl⟩ | hz
    · exact absurd h2 hu
    · exact hf j z hz hu
  · rw [Tr.make_refs s x h1]
    rcases hnew hz with ⟨e, rfl⟩ | hz
    · rw [h0, if_neg (by omega), refs_zero fun k v hv e2 he2 e3 => by
        obtain ⟨u, hu, _⟩ := h.ent k v hv e2 he2
        have := Tr.opt_lt hu
        omega]
    · exact h.cnt j z hz
  · rcases hnew hz with ⟨_, rfl⟩ | hz
    · exact ⟨h0, .inl h1⟩
    · obtain ⟨h3, h4⟩ := h.lost j z hz k2 k3 hu
      exact ⟨h3, h4.imp_right .inl⟩
  · rcases hnew hz with ⟨e, _⟩ | hz
    · exact .inl (.inr e)
    · exact (h.held j z hz hk).imp_left .inl
  · refine ⟨h.tabs.1, fun k hk16 hon => ?_⟩
    obtain ⟨j, z, e1, hz, e3⟩ := h.tabs.2 k hk16 hon
    exact ⟨j, z, e1, hold hz, e3⟩
theorem heldB_false {L : List Plc} {n : Int} {m : Nat} (h : heldB L n m = false) {k : Nat} (hk : k < m) (hon : (pl L k).on = true) : (pl L k).nd ≠ n := fun e => by
  rw [held_yes hk hon (by simpa using e)] at h
  cases h
/-- gone, if nothing is left by which it can be reached -/
theorem OkE.leave (h : OkE b s E) {i : Nat} {x : Nd} (hi : s.opt i = some x) (hents : x.kind = 2 → x.links = 0 → x.ents = []) : OkE b (s.leave i) fun j => E j ∧ j ≠ i := by
  unfold Tr.leave
  rw [Tr.at_of hi]
  by_cases hc : x.links = 0 ∧ heldB s.tb i 16 = false
  · rw [if_pos hc]
    obtain ⟨hl0, hh⟩ := hc
    have hop := Tr.opt_del s i
    have hi1 : i ≠ 1 := fun e => by subst e; have := h.root_links hi; omega
    have hnr : ∀ k v, s.opt k = some v → ∀ e ∈ v.ents, e.2 ≠ i := fun k v hv => by
      have h3 := h.cnt i x hi
      rw [hl0] at h3
      exact refs_none (by omega) hv
    have he0 : x.ents = [] := by
      by_cases hk : x.kind = 2
      · exact hents hk hl0
      · exact ((h.each i x hi).noent hk).1
    have hnew : ∀ {j z}, (s.del i).opt j = some z → j ≠ i ∧ s.opt j = some z := fun {j z} hz => by
      rw [hop] at hz
      by_cases e : j = i
      · rw [if_pos e] at hz; cases hz
      · rw [if_neg e] at hz; exact ⟨e, hz⟩
    have hold : ∀ {j z}, s.opt j = some z → j ≠ i → (s.del i).opt j = some z := fun {j z} hz e => by rw [hop, if_neg e]; exact hz
    refine ⟨?_, ?_, ?_, fun j z hz => h.each j z (hnew hz).2, fun j z hz e he => ?_, fun j z hz hu => ?_, ?_, fun j z hz => ?_, fun j z hz k2 k3 hu => ?_, fun j z hz hk => ?_, ?_⟩
    · obtain ⟨r1, r2, r3⟩ := h.root
      obtain ⟨z, hz⟩ := Option.ne_none_iff_exists'.1 r1
      rw [Tr.at_of hz] at r2 r3
      have hz' := hold hz (Ne.symm hi1)
      exact ⟨by rw [hz']; exact Option.some_ne_none _, by rw [Tr.at_of hz']; exact r2, by rw [Tr.at_of hz']; exact r3⟩
    · rw [hop]; split
      · rfl
      · exact h.zero
    · show 2 ≤ (s.nd.set i none).length ∧ (s.nd.set i none).length ≤ b + 2
      rw [List.length_set]; exact h.len
    · obtain ⟨v, hv, hv2⟩ := h.ent j z (hnew hz).2 e he
      exact ⟨v, hold hv (hnr j z (hnew hz).2 e he), hv2⟩
    · obtain ⟨v, hv, hv1, hv2⟩ := h.up j z (hnew hz).2 hu
      refine ⟨v, hold hv (fun e => ?_), hv1, hv2⟩
      rw [e, hi] at hv
      obtain rfl := Option.some.inj hv
      rw [he0] at hv2
      cases hv2
    · obtain ⟨f, hf⟩ := h.dep
      exact ⟨f, fun j z hz hu => hf j z (hnew hz).2 hu⟩
    · have h1 := refsL_del hi j
      rw [he0] at h1
      have h2 := h.cnt j z (hnew hz).2
      have h3 : refsE j [] = 0 := rfl
      rw [h3] at h1
      omega
    · obtain ⟨h3, h4⟩ := h.lost j z (hnew hz).2 k2 k3 hu
      exact ⟨h3, h4.imp_right fun h5 => ⟨h5, (hnew hz).1⟩⟩
    · exact (h.held j z (hnew hz).2 hk).imp_left fun h5 => ⟨h5, (hnew hz).1⟩
    · refine ⟨h.tabs.1, fun k hk16 hon => ?_⟩
      obtain ⟨j, z, e1, hz, e3⟩ := h.tabs.2 k hk16 hon
      refine ⟨j, z, e1, hold hz (fun e => ?_), e3⟩
      rw [e] at e1
      exact heldB_false hh hk16 hon e1
  · rw [if_neg hc]
    refine ⟨h.root, h.zero, h.len, h.each, h.ent, h.up, h.dep, h.cnt, fun j z hz k2 k3 hu => ?_, fun j z hz hk => ?_, h.tabs⟩
    · obtain ⟨h3, h4⟩ := h.lost j z hz k2 k3 hu
      refine ⟨h3, ?_⟩
      by_cases e : j = i
      · subst e
        rw [hi] at hz
        obtain rfl := Option.some.inj hz
        exact .inl (hents k2 h3)
      · exact h4.imp_right fun h5 => ⟨h5, e⟩
    · by_cases e : j = i
      · subst e
        rw [hi] at hz
        obtain rfl := Option.some.inj hz
        refine .inr ?_
        cases hh : heldB s.tb j 16 with
        | true => rfl
        | false => exact absurd ⟨hk, hh⟩ hc
      · exact (h.held j z hz hk).imp_left fun h5 => ⟨h5, e⟩

/-! ### Bytes and places -/
theorem Ok.put_file (h : Ok b s) {i : Nat} {x x' : Nd} (hi : s.opt i = some x) (hk : x.kind = 1) (e1 : x'.kind = x.kind) (e2 : x'.links = x.links) (e3 : x'.ents = x.ents) (e4 : x'.most = x.most) (e5 : x'.up = x.up) (e6 : x'.nm = x.nm) : Ok b (s.put i x') := by
  have hop := Tr.opt_put (y := x') hi
  have hnew : ∀ {j z}, (s.put i x').opt j = some z → ∃ z0, s.opt j = some z0 ∧ z.kind = z0.kind ∧ z.links = z0.links ∧ z.ents = z0.ents ∧ z.most = z0.most ∧ z.up = z0.up ∧ z.nm = z0.nm ∧ (z = z0 ∨ z.kind = 1) := fun {j z} hz => by
    rw [hop] at hz
    by_cases e : j = i
    · rw [if_pos e] at hz; obtain rfl := Option.some.inj hz; exact ⟨x, by rw [e]; exact hi, e1, e2, e3, e4, e5, e6, .inr (e1.trans hk)⟩
    · rw [if_neg e] at hz; exact ⟨z, hz, rfl, rfl, rfl, rfl, rfl, rfl, .inl rfl⟩
  have hold : ∀ {j z}, s.opt j = some z → ∃ z', (s.put i x').opt j = some z' ∧ z'.kind = z.kind ∧ z'.ents = z.ents ∧ z'.up = z.up ∧ z'.nm = z.nm := fun {j z} hz => by
    by_cases e : j = i
    · rw [e, hi] at hz
      obtain rfl := Option.some.inj hz
      exact ⟨x', by rw [hop, if_pos e], e1, e3, e5, e6⟩
    · exact ⟨z, by rw [hop, if_neg e]; exact hz, rfl, rfl, rfl, rfl⟩
  refine ⟨?_, ?_, ?_, fun j z hz => ?_, fun j z hz e he => ?_, fun j z hz hu => ?_, ?_, fun j z hz => ?_, fun j z hz k2 k3 hu => ?_, fun j z hz hl => ?_, ?_⟩
  · obtain ⟨r1, r2, r3⟩ := h.root
    obtain ⟨z, hz⟩ := Option.ne_none_iff_exists'.1 r1
    rw [Tr.at_of hz] at r2 r3
    obtain ⟨z', hz', q1, q2, q3, q4⟩ := hold hz
    exact ⟨by rw [hz']; exact Option.some_ne_none _, by rw [Tr.at_of hz', q1]; exact r2, by rw [Tr.at_of hz', q3]; exact r3⟩
  · rw [hop, if_neg (fun e => by rw [← e, h.zero] at hi; cases hi)]; exact h.zero
  · rw [Tr.put_len]; exact h.len
  · obtain ⟨z0, hz0, q1, q2, q3, q4, q5, q6, q7⟩ := hnew hz
    have hn := h.each j z0 hz0
    refine ⟨q1 ▸ hn.kind, fun h2 => ?_, fun h2 => ?_, fun h2 => ?_, q3 ▸ hn.sorted, q3 ▸ hn.names, q2 ▸ hn.links, q4 ▸ hn.most, q3 ▸ hn.few, q6 ▸ hn.nm, q6 ▸ hn.nml⟩
    · rw [q3, q5]; exact hn.noent (q1 ▸ h2)
    · rcases q7 with q7 | q7
      · rw [q7]; exact hn.link (q1 ▸ h2)
      · rw [q7] at h2; cases h2
    · rcases q7 with q7 | q7
      · rw [q7]; exact hn.dir (q1 ▸ h2)
      · rw [q7] at h2; cases h2
  · obtain ⟨z0, hz0, q1, q2, q3, q4, q5, q6, q7⟩ := hnew hz
    rw [q3] at he
    obtain ⟨v, hv, hv2⟩ := h.ent j z0 hz0 e he
    obtain ⟨v', hv', p1, p2, p3, p4⟩ := hold hv
    exact ⟨v', hv', fun h2 => by rw [p3, p4]; exact hv2 (p1 ▸ h2)⟩
  · obtain ⟨z0, hz0, q1, q2, q3, q4, q5, q6, q7⟩ := hnew hz
    rw [q5] at hu
    rw [q5, q6]
    obtain ⟨v, hv, hv1, hv2⟩ := h.up j z0 hz0 hu
    obtain ⟨v', hv', p1, p2, p3, p4⟩ := hold hv
    exact ⟨v', hv', by rw [p1]; exact hv1, by rw [p2]; exact hv2⟩
  · obtain ⟨f, hf⟩ := h.dep
    refine ⟨f, fun j z hz hu => ?_⟩
    obtain ⟨z0, hz0, q1, q2, q3, q4, q5, q6, q7⟩ := hnew hz
    rw [q5] at hu ⊢
    exact hf j z0 hz0 hu
  · obtain ⟨z0, hz0, q1, q2, q3, q4, q5, q6, q7⟩ := hnew hz
    have h1 := refsL_put x' hi j
    rw [e3] at h1
    have h2 := h.cnt j z0 hz0
    rw [q2]
    omega
  · obtain ⟨z0, hz0, q1, q2, q3, q4, q5, q6, q7⟩ := hnew hz
    have := h.lost j z0 hz0 (q1 ▸ k2) k3 (q5 ▸ hu)
    rw [q3, q2]; exact this
  · obtain ⟨z0, hz0, q1, q2, q3, q4, q5, q6, q7⟩ := hnew hz
    exact h.held j z0 hz0 (q2 ▸ hl)
  · refine ⟨h.tabs.1, fun k hk16 hon => ?_⟩
    obtain ⟨j, z, p1, hz, p3, p4, p5, p6, p7, p8⟩ := h.tabs.2 k hk16 hon
    obtain ⟨z', hz', q1, q2, q3, q4⟩ := hold hz
    exact ⟨j, z', p1, hz', by rw [q1]; exact p3, p4, p5, p6, p7, by rw [q1]; exact p8⟩
theorem OkE.set_tab (h : OkE b s E) {L : List Plc} {E' : Nat → Prop} (hl : L.length = 16) (hE : ∀ i, E i → E' i) (hh : ∀ i x, s.opt i = some x → x.links = 0 → heldB s.tb i 16 = true → E' i ∨ heldB L i 16 = true)
    (ht : ∀ k, k < 16 → (pl L k).on = true → ∃ i x, (pl L k).nd = ((i : Nat) : Int) ∧ s.opt i = some x ∧ x.kind ≠ 3 ∧ 0 ≤ (pl L k).fl ∧ (pl L k).fl ≤ 63 ∧ 0 ≤ (pl L k).off ∧ (pl L k).off ≤ 1099511627776 ∧ (bitF (pl L k).fl 32 = true → x.kind = 1)) : OkE b { s with tb := L } E' :=
  ⟨h.root, h.zero, h.len, h.each, h.ent, h.up, h.dep, h.cnt, fun i x h1 h2 h3 h4 => ⟨(h.lost i x h1 h2 h3 h4).1, (h.lost i x h1 h2 h3 h4).2.imp_right (hE i)⟩, fun i x h1 h2 => by
    rcases h.held i x h1 h2 with h3 | h3
    · exact .inl (hE i h3)
    · exact hh i x h1 h2 h3, hl, ht⟩
theorem held_some {L : List Plc} {n : Int} {m : Nat} (h : heldB L n m = true) : ∃ k, k < m ∧ (pl L k).on = true ∧ (pl L k).nd = n := by
  unfold heldB at h
  obtain ⟨k, hk, h1⟩ := List.any_eq_true.1 h
  rw [Bool.and_eq_true] at h1
  exact ⟨k, List.mem_range.1 hk, h1.1, by simpa using h1.2⟩
theorem there_iff {L : List Plc} {fd : Int} (h : thereB L fd = true) : fd.toNat < 16 ∧ (pl L fd.toNat).on = true := by
  unfold thereB at h
  rw [Bool.and_eq_true] at h
  have := of_decide_eq_true h.1
  exact ⟨by omega, h.2⟩
/-- a descriptor moves -/
theorem Ok.move (h : Ok b s) {fd x : Int} (ht : thereB s.tb fd = true) (h0 : 0 ≤ x) (h1 : x ≤ 1099511627776) : Ok b (s.move fd x) := by
  obtain ⟨hf, hon⟩ := there_iff ht
  have hlen := h.tabs.1
  have hpl : ∀ j, pl (s.tb.set fd.toNat ((s.plc fd).to x)) j = if j = fd.toNat then (s.plc fd).to x else pl s.tb j := fun j => pl_set (by omega)
  refine (h.e.set_tab (E' := fun _ => False) (by rw [List.length_set]; exact hlen) (fun _ h => h) (fun i z hz hl hh => ?_) (fun k hk hko => ?_)).ok fun _ h => h
  · obtain ⟨k, hk, k1, k2⟩ := held_some hh
    by_cases e : k = fd.toNat
    · rw [e] at k2 hk
      refine .inr (held_yes hk (by rw [hpl, if_pos rfl]; exact hon) ?_)
      rw [hpl, if_pos rfl]
      show ((pl s.tb fd.toNat).nd == _) = true
      rw [k2]; simp
    · exact .inr (held_yes hk (by rw [hpl, if_neg e]; exact k1) (by rw [hpl, if_neg e, k2]; simp))
  · rw [hpl] at hko ⊢
    by_cases e : k = fd.toNat
    · rw [if_pos e]
      obtain ⟨i, z, p1, p2, p3, p4, p5, p6, p7, p8⟩ := h.tabs.2 fd.toNat hf hon
      exact ⟨i, z, p1, p2, p3, p4, p5, h0, h1, p8⟩
    · rw [if_neg e] at hko ⊢
      exact h.tabs.2 k hk hko

/-! ### What is found can be reached from the root -/
def Tr.live (s : Tr) (i : Nat) : Prop := ∃ x, s.opt i = some x ∧ (x.kind = 2 → i = 1 ∨ x.up ≠ 0)
theorem Ok.live_root (h : Ok b s) : s.live 1 := ⟨_, h.alive, fun _ => .inl rfl⟩
theorem Ok.step_live (h : Ok b s) {i : Nat} {p : List Nat} (hi : s.live i) (hc : (s.step i p).1 = 0) : s.live (s.step i p).2 := by
  obtain ⟨x, hx, hl⟩ := hi
  unfold Tr.step at hc ⊢
  rw [Tr.at_of hx] at hc ⊢
  by_cases h1 : x.kind ≠ 2
  · rw [if_pos h1] at hc; exact absurd hc (by decide)
  · rw [if_neg h1] at hc ⊢
    have hk : x.kind = 2 := Decidable.of_not_not h1
    by_cases h2 : p = dots
    · rw [if_pos h2]
      by_cases h3 : x.up = 0
      · rw [if_pos h3]; exact ⟨x, hx, hl⟩
      · rw [if_neg h3]
        obtain ⟨y, hy, hyk, hym⟩ := h.up i x hx h3
        refine ⟨y, hy, fun _ => ?_⟩
        by_cases h4 : x.up = 1
        · exact .inl h4
        · refine .inr fun h5 => ?_
          have := (h.lost _ y hy hyk h4 h5).1
          rw [this] at hym
          cases hym
    · rw [if_neg h2] at hc ⊢
      cases hlk : x.look p with
      | zero => rw [hlk] at hc; exact absurd hc (by simp)
      | succ j =>
        have hm := look_mem (p := p) (j := j + 1) hlk (by omega)
        obtain ⟨y, hy, hyu⟩ := h.ent i x hx _ hm
        refine ⟨y, hy, fun h6 => .inr ?_⟩
        rw [(hyu h6).1]
        exact fun e => by rw [e, h.zero] at hx; cases hx
theorem Ok.walkIn_live (h : Ok b s) {itself : Bool} {cont : List (List Nat) → Nat → Int × Nat} (hc : ∀ l i, s.live i → (itself = false → (s.at i).kind ≠ 3) → (cont l i).1 = 0 → s.live (cont l i).2 ∧ (itself = false → (s.at (cont l i).2).kind ≠ 3)) :
    ∀ (L : List (List Nat)) (i : Nat), s.live i → (itself = false → (s.at i).kind ≠ 3) → (s.walkIn itself cont L i).1 = 0 → s.live (s.walkIn itself cont L i).2 ∧ (itself = false → (s.at (s.walkIn itself cont L i).2).kind ≠ 3)
  | [], i, h1, h2, _ => ⟨h1, h2⟩
  | p :: r, i, h1, h2, h3 => by
    unfold Tr.walkIn at h3 ⊢
    by_cases e1 : (s.step i p).1 ≠ 0
    · rw [if_pos e1] at h3; exact absurd h3 e1
    · rw [if_neg e1] at h3 ⊢
      have hs := h.step_live h1 (Decidable.of_not_not e1)
      by_cases e2 : (s.at (s.step i p).2).kind ≠ 3 ∨ itself = true ∧ r = []
      · rw [if_pos e2] at h3 ⊢
        refine Ok.walkIn_live h hc r _ hs (fun h4 => ?_) h3
        rcases e2 with e2 | e2
        · exact e2
        · rw [e2.1] at h4; cases h4
      · rw [if_neg e2] at h3 ⊢
        refine hc _ _ ?_ ?_ h3
        · split
          · exact h.live_root
          · exact h1
        · intro h4
          split
          · rw [h.root.2.1]; decide
          · exact h2 h4
theorem Ok.walk_live (h : Ok b s) {itself : Bool} : ∀ (k : Nat) (L : List (List Nat)) (i : Nat), s.live i → (itself = false → (s.at i).kind ≠ 3) → (s.walk itself k L i).1 = 0 → s.live (s.walk itself k L i).2 ∧ (itself = false → (s.at (s.walk itself k L i).2).kind ≠ 3)
  | 0, _, _, _, _, h3 => absurd h3 (by unfold Tr.walk; decide)
  | k + 1, L, i, h1, h2, h3 => by
    unfold Tr.walk at h3 ⊢
    exact h.walkIn_live (fun l i => Ok.walk_live h k l i) L i h1 h2 h3
theorem Ok.find_live (h : Ok b s) {p : List Nat} {itself : Bool} (hc : (s.find p itself).1 = 0) : s.live (s.find p itself).2 ∧ (itself = false → (s.at (s.find p itself).2).kind ≠ 3) := by
  unfold Tr.find at hc ⊢
  by_cases e : codeP p ≠ 0
  · rw [if_pos e] at hc; exact absurd hc e
  · rw [if_neg e] at hc ⊢
    exact h.walk_live 9 _ 1 h.live_root (fun _ => by rw [h.root.2.1]; decide) hc
/-- a place, whole -/
structure SpotAt (b : Nat) (s : Tr) (q : Spot) (y : Nd) : Prop where
  dir : s.opt q.dir = some y
  kind : y.kind = 2
  name : NameP q.nm
  there : lookE y.ents q.nm = q.there
  far : sizeL (s.path q.dir) + 1 + q.nm.length ≤ 200 ∧ (s.path q.dir).length + 1 ≤ 20
  live : q.dir = 1 ∨ y.up ≠ 0
theorem Ok.spot_at (h : Ok b s) {p : List Nat} (hp : Octs p) (hc : (s.place p).1 = 0) : ∃ y, SpotAt b s (s.place p).2 y := by
  obtain ⟨y, h1, h2, h3, h4, h5⟩ := h.spot hp hc
  refine ⟨y, h1, h2, h3, h4.symm, ?_, ?_⟩
  · unfold Go.Proofs.YtgcodlicbdaddaaGreatDoor.far at h5
    rw [Bool.or_eq_false_iff] at h5
    have := of_decide_eq_false h5.1
    have := of_decide_eq_false h5.2
    omega
  · have hd : (s.place p).2.dir = (s.find (headL p) false).2 ∧ (s.find (headL p) false).1 = 0 := by
      unfold Tr.place at hc ⊢
      by_cases e1 : codeL p ≠ 0
      · rw [if_pos e1] at hc; exact absurd hc e1
      · rw [if_neg e1] at hc ⊢
        by_cases e2 : (s.find (headL p) false).1 ≠ 0
        · rw [if_pos e2] at hc; exact absurd hc e2
        · rw [if_neg e2] at hc ⊢
          by_cases e3 : (s.at (s.find (headL p) false).2).kind ≠ 2
          · rw [if_pos e3] at hc; exact absurd hc (by decide)
          · rw [if_neg e3] at hc ⊢
            split at hc
            · exact absurd hc (by decide)
            · rename_i e4
              rw [if_neg e4]
              exact ⟨rfl, Decidable.of_not_not e2⟩
    obtain ⟨z, hz, hzl⟩ := (h.find_live hd.2).1
    rw [← hd.1, h1] at hz
    obtain rfl := Option.some.inj hz
    have := hzl h2
    rw [← hd.1] at this
    exact this
/-- how deep it lies -/
theorem Ok.path_deep (h : Ok b s) {i : Nat} {x : Nd} (hx : s.opt i = some x) (hu : x.up ≠ 0) : (s.path i).length = (s.path x.up).length + 1 ∧ (s.path i).length ≤ 20 := by
  obtain ⟨f, hf⟩ := h.dep
  have key : ∀ n j z, s.opt j = some z → z.up ≠ 0 → f j ≤ n → (s.path j).length ≤ f j := fun n => by
    induction n with
    | zero =>
      intro j z hz hu hn
      have := hf j z hz hu
      omega
    | succ n ih =>
      intro j z hz hu hn
      have h1 := hf j z hz hu
      have h2 : s.path j = s.path z.up ++ [z.nm] := h.path_up hz hu
      obtain ⟨y, hy, _⟩ := h.up j z hz hu
      rw [h2, List.length_append, List.length_singleton]
      by_cases h3 : y.up = 0
      · rw [Tr.path_root (by rw [Tr.at_of hy]; exact h3)]
        show 0 + 1 ≤ f j
        omega
      · have := ih z.up y hy h3 (by omega)
        omega
  refine ⟨by rw [h.path_up hx hu, List.length_append, List.length_singleton], ?_⟩
  have h1 := key (f i) i x hx hu (Nat.le_refl _)
  have h2 := hf i x hx hu
  omega
/-- what lies within, and is not too far -/
theorem Ok.over_deep (h : Ok b s) {top n bb : Nat} (ho : s.overF 21 top bb n = false) : ∀ (m j : Nat) (x : Nd), s.opt j = some x → s.within j top = true → (s.path j).length ≤ m →
    (s.path top).length ≤ (s.path j).length ∧ (∃ b', s.overF (21 - ((s.path j).length - (s.path top).length)) j b' (n + ((s.path j).length - (s.path top).length)) = false) ∧ (j ≠ top → n + ((s.path j).length - (s.path top).length) ≤ 20)
  | m, j, x, hx, hw, hm => by
    by_cases e : j = top
    · subst e
      exact ⟨Nat.le_refl _, ⟨bb, by simpa using ho⟩, fun h => absurd rfl h⟩
    · by_cases hu : x.up = 0
      · rw [Tr.within_end (.inr (by rw [Tr.at_of hx]; exact hu)), decide_eq_false e] at hw
        cases hw
      · rw [h.within_up hx hu e] at hw
        obtain ⟨h1, h2⟩ := h.path_deep hx hu
        obtain ⟨y, hy, hyk, hym⟩ := h.up j x hx hu
        match m, hm with
        | 0, hm => omega
        | m + 1, hm =>
          obtain ⟨h3, ⟨b', h4⟩, h5⟩ := Ok.over_deep h ho m x.up y hy hw (by omega)
          obtain ⟨r, hr⟩ : ∃ r, (s.path x.up).length - (s.path top).length = r := ⟨_, rfl⟩
          rw [hr] at h4
          have hr1 : (s.path j).length - (s.path top).length = r + 1 := by omega
          obtain ⟨k, hk⟩ : ∃ k, 21 - r = k + 1 := ⟨20 - r, by omega⟩
          rw [hk, overF_eq, Tr.at_of hy] at h4
          have h6 := List.any_eq_false.1 h4 _ hym
          unfold overE at h6
          simp only [Bool.or_eq_true, not_or, Bool.not_eq_true] at h6
          refine ⟨by omega, ⟨b' + 1 + x.nm.length, ?_⟩, fun _ => ?_⟩
          · rw [hr1, show 21 - (r + 1) = k by omega, show n + (r + 1) = n + r + 1 by omega]
            exact h6.2
          · have h7 := h6.1
            unfold far at h7
            rw [Bool.or_eq_false_iff] at h7
            have := of_decide_eq_false h7.2
            omega
end
end Go.Proofs.YtgcodlicbdaddaaGreatDoor
end

section
set_option linter.unusedVariables false
set_option linter.unusedSimpArgs false
namespace Go.Proofs.YtgcodlicbdaddaaGreatDoor
open Go.RowKit BigFrame
set_option maxRecDepth 100000

section
variable {w : World} {B b : Nat} {A : Ad} {s : Tr}
theorem free_none {l : List Nat} : s.free l = 0 → (s.place l).1 = 0 ∧ (s.place l).2.there = 0 := fun h => by
  unfold Tr.free at h
  by_cases h1 : (s.place l).1 = 0 ∧ (s.place l).2.there ≠ 0
  · rw [if_pos h1] at h; exact absurd h (by decide)
  · rw [if_neg h1] at h; exact ⟨h, Decidable.of_not_not fun h2 => h1 ⟨h, h2⟩⟩
/-- a new node hung -/
theorem put_new {n d g : Nat} {o : Option Nat} {y x : Nd} {nm : List Nat} {s1 : Tr} (th : Nat) (hb : b ≤ 1000000) (hs : s.make x = s1) (hn : s.nd.length = n) (hd : s.opt d = some y) (hk : y.kind = 2) (hyd : NodeOk b y) (hpos : ∀ e ∈ y.ents, e.2 ≠ 0) (hx0 : x.links = 0) (hnm : NameP nm) (hlk : lookE y.ents nm = 0)
    (hT : TreeAt w B (A.add n g o) s1) :
    Calls Tryz.prog 130 #[.pointer (some ⟨A.t, 0, none⟩), .agg #[.pointer (some ⟨A.nd d, 0, none⟩), .string (strOf nm), .pointer none], .pointer (some ⟨g, 0, none⟩)] w (TurnPost B (A.add n g o) (s1.hang ⟨d, nm, th⟩ n) w) := by
  have hdn : d ≠ n := fun e => by have := Tr.opt_lt hd; omega
  have hd1 : s1.opt d = some y := by rw [← hs, Tr.opt_make, if_neg (by omega)]; exact hd
  have hi1 : s1.opt n = some x := by rw [← hs, Tr.opt_make, if_pos hn.symm]
  have h1 := put_any hT hb hd1 hk hi1 hyd hpos (by rw [hx0]; exact Nat.zero_le b) hdn hnm.octs hnm.long hlk none th
  have e1 : (A.add n g o).nd d = A.nd d := by unfold Ad.add; simp only [if_neg hdn]
  have e2 : (A.add n g o).nd n = g := by unfold Ad.add; simp
  rw [e1, e2] at h1
  exact h1
set_option maxHeartbeats 1000000 in
theorem mkdir_any (h : TreeAt w B A s) (ho : Ok b s) (hB : B ≤ w.heap.size) (hb : b ≤ 900000) (p : ByteArray) :
    Calls Tryz.prog 87 #[.pointer (some ⟨A.t, 0, none⟩), .string p] w (CodePost B A (s.mkdir (nb p)).2 (s.mkdir (nb p)).1.code w) := by
  have h' := Lib.hid h
  have hsp := free_any h ho (by omega) p
  unfold SpotPost at hsp
  have hul : s.mkdir (nb p) = if s.free (nb p) ≠ 0 then (ansC (s.free (nb p)), s) else (ans0, s.fresh (s.place (nb p)).2 (ndNew 2)) := rfl
  clear h
  by_cases hc : s.free (nb p) = 0
  · obtain ⟨h1, h2⟩ := free_none hc
    obtain ⟨y, hy, hk, hn, ht, _⟩ := ho.spot (nb_octs p) h1
    rw [hc, h1, spV_none A ho h2] at hsp
    rw [hc, if_neg (by decide)] at hul
    rw [h2] at ht
    obtain ⟨⟨d, nm, th⟩, hq⟩ : ∃ z, (s.place (nb p)).2 = z := ⟨_, rfl⟩
    rw [hq] at hsp hul hy hn ht
    obtain ⟨n, hnl⟩ : ∃ n, s.nd.length = n := ⟨_, rfl⟩
    obtain ⟨s1, hs1⟩ : ∃ s1, s.make (ndNew 2) = s1 := ⟨_, rfl⟩
    have hfr : s.fresh ⟨d, nm, th⟩ (ndNew 2) = s1.hang ⟨d, nm, th⟩ n := by unfold Tr.fresh; rw [hs1, hnl]
    rw [hfr] at hul
    have hmk := Lib.hid (show ∀ w', TreeAt w' B A s → B ≤ w'.heap.size → Calls Tryz.prog 43 #[.pointer (some ⟨A.t, 0, none⟩), .int .i64 2] w' (fun e w2 => ∃ g o, e = .returned (.pointer (some ⟨g, 0, none⟩)) ∧ TreeAt w2 B (A.add n g o) s1 ∧ TStep w' A w2 (A.add n g o)) from fun w' hw' hB' => by
      have h3 := make_any hw' hB' (by have := ho.len.2; omega) (by have := ho.len.1; omega) 2
      unfold MakePost at h3
      rw [hnl, hs1] at h3
      exact h3)
    have hpt := Lib.hid (fun w' g o (hw' : TreeAt w' B (A.add n g o) s1) => put_new th (by omega) hs1 hnl hy hk (ho.each d y hy) (ho.ent_pos hy) rfl hn ht.symm hw')
    have hsp' := Lib.hid hsp
    have hul' := Lib.hid hul
    clear hul hsp hq hy hn ht hnl hs1 hfr
    go_enter Tryz.func87, Tryz.ntmps87
    go_wp2_with (go_at_call 141; refine hsp'.out.mono ?_; rintro e w1 ⟨rfl, hb1⟩; have hB1 := Lib.hid (hb1.alloc hb1.size (.cells #[.pointer (some ⟨A.nd d, 0, none⟩), .string (strOf nm), .pointer none] 171)); have hz1 := Lib.hid hb1.size; clear hb1)
    obtain ⟨w2, hw2⟩ : ∃ w2, w1.alloc (.cells #[.pointer (some ⟨A.nd d, 0, none⟩), .string (strOf nm), .pointer none] 171) = w2 := ⟨_, rfl⟩
    rw [hw2] at hB1 ⊢
    have V2 := Lib.hid (show Vw w2 171 w1.heap.size [.pointer (some ⟨A.nd d, 0, none⟩), .string (strOf nm), .pointer none] by rw [← hw2]; exact Vw.alloc _ _ _)
    have T2 := Lib.hid (h'.out.below hB1.out)
    have k0 := V2.out.cell (k := 0) rfl
    have k1 := V2.out.cell (k := 1) rfl
    have k2 := V2.out.cell (k := 2) rfl
    have hno := Lib.hid (show A.own w1.heap.size = none by
      cases e : A.own w1.heap.size with
      | none => rfl
      | some r => exact absurd (h'.out.hi _ _ e).2 (by have := hz1.out; omega))
    have hlt2 := Lib.hid V2.out.lt
    clear hw2
    go_region_with (first
      | (go_at_call 43; refine (hmk.out _ T2.out.drew (Nat.le_trans hB hB1.out.size)).mono ?_; rintro e w3 ⟨g, o, rfl, hT3, hS3⟩; have T3 := Lib.hid hT3; have S3 := Lib.hid hS3; have V3 := Lib.hid (show Vw w3 171 w1.heap.size [.pointer (some ⟨A.nd d, 0, none⟩), .string (strOf nm), .pointer none] by (have h1 := V2.out.drew1; unfold Vw at h1 ⊢; rw [hS3.block _ hlt2.out hno.out]; exact h1)); have k0 := V3.out.cell (k := 0) rfl; have k1 := V3.out.cell (k := 1) rfl; have k2 := V3.out.cell (k := 2) rfl; clear hT3 hS3)
      | (go_at_call 130; refine (hpt.out _ g o T3.out).mono ?_; rintro e w4 ⟨rfl, hT4, hS4⟩; have T4 := Lib.hid hT4; have S4 := Lib.hid (((TStep.of_below A hB1.out).trans (TStep.drew w2 A)).trans (S3.out.trans hS4)); clear hT4 hS4))
    all_goals (
      go_wp2_with fail
      go_ret
      rw [hul'.out]
      exact ⟨rfl, _, T4.out, S4.out⟩)
  · rw [if_pos hc] at hul
    obtain ⟨o1, z, o2, hf⟩ := spV_form A s (s.place (nb p)).1 (s.place (nb p)).2
    rw [hf] at hsp
    obtain ⟨c, hcc⟩ : ∃ c, s.free (nb p) = c := ⟨_, rfl⟩
    rw [hcc] at hsp hul hc
    have hul' := Lib.hid hul
    have hsp' := Lib.hid hsp
    have t0 : (c != 0) = true := by rw [bne_iff_ne]; exact hc
    clear hul hsp hf hcc
    go_enter Tryz.func87, Tryz.ntmps87
    go_wp2_with (go_at_call 141; refine hsp'.out.mono ?_; rintro e w1 ⟨rfl, hb1⟩; have hB1 := Lib.hid (hb1.alloc hb1.size (.cells #[.pointer o1, .string z, .pointer o2] 171)); clear hb1)
    go_ret
    rw [hul'.out]
    exact ⟨rfl, A, h'.out.below hB1.out, TStep.of_below A hB1.out⟩
set_option maxHeartbeats 1000000 in
theorem link_any (h : TreeAt w B A s) (ho : Ok b s) (hb : b ≤ 900000) (p q : ByteArray) :
    Calls Tryz.prog 90 #[.pointer (some ⟨A.t, 0, none⟩), .string p, .string q] w (CodePost B A (s.link (nb p) (nb q)).2 (s.link (nb p) (nb q)).1.code w) := by
  have h' := Lib.hid h
  have hfi := find_any h ho (by omega) p true
  unfold StepPost at hfi
  have hul : s.link (nb p) (nb q) = if (s.find (nb p) true).1 ≠ 0 then (ansC (s.find (nb p) true).1, s) else if (s.at (s.find (nb p) true).2).kind = 2 then (ansC 16, s) else
    if s.free (nb q) ≠ 0 then (ansC (s.free (nb q)), s) else (ans0, s.hang (s.place (nb q)).2 (s.find (nb p) true).2) := rfl
  have hal := ho.find_alive (p := nb p) (itself := true)
  obtain ⟨⟨c1, i⟩, hq1⟩ : ∃ z, s.find (nb p) true = z := ⟨_, rfl⟩
  rw [hq1] at hfi hul hal
  have hfi' := Lib.hid hfi
  clear h hfi hq1
  by_cases hc1 : c1 = 0
  · subst hc1
    obtain ⟨x, hx⟩ := hal rfl
    rw [if_neg (fun h => h rfl), Tr.at_of hx] at hul
    have hx' := Lib.hid hx
    by_cases hk : x.kind = 2
    · rw [if_pos hk] at hul
      have hul' := Lib.hid hul
      clear hul hx hal
      go_enter Tryz.func90, Tryz.ntmps90
      go_wp2_with (go_at_call 59; refine hfi'.out.mono ?_; rintro e w1 ⟨rfl, hb1⟩; have hB1 := Lib.hid hb1; have ck := ((h'.out.below hb1).node i x hx'.out).kind; rw [hk] at ck; clear hb1)
      go_ret
      rw [hul'.out]
      exact ⟨rfl, A, h'.out.below hB1.out, TStep.of_below A hB1.out⟩
    · rw [if_neg hk] at hul
      have t5 : (((x.kind : Nat) : Int) == 2) = false := nat_beq_ne (b := 2) hk
      have hsp := Lib.hid (fun w' (hw' : TreeAt w' B A s) => free_any hw' ho (by omega) q)
      by_cases hc : s.free (nb q) = 0
      · obtain ⟨h1, h2⟩ := free_none hc
        obtain ⟨y, hy, hyk, hn, ht, _⟩ := ho.spot (nb_octs q) h1
        rw [h2] at ht
        have hsp2 : ∀ w', TreeAt w' B A s → Calls Tryz.prog 141 #[.pointer (some ⟨A.t, 0, none⟩), .string q] w' fun e w2 => e = .returned (.tuple #[.agg #[.pointer (some ⟨A.nd (s.place (nb q)).2.dir, 0, none⟩), .string (strOf (s.place (nb q)).2.nm), .pointer none], .int .i64 0]) ∧ Below w'.heap.size w' w2 := fun w' hw' => by
          have h3 := hsp.out w' hw'
          unfold SpotPost at h3
          rw [hc, h1, spV_none A ho h2] at h3
          exact h3
        rw [hc, if_neg (by decide)] at hul
        obtain ⟨⟨d, nm, th⟩, hq⟩ : ∃ z, (s.place (nb q)).2 = z := ⟨_, rfl⟩
        rw [hq] at hsp2 hul hy hn ht
        have hdi : d ≠ i := fun e => by rw [e, hx] at hy; exact hk ((Option.some.inj hy) ▸ hyk)
        have hpt := Lib.hid (fun w' (hw' : TreeAt w' B A s) => put_any hw' (b := b) (by omega) hy hyk hx (ho.each d y hy) (ho.ent_pos hy) (ho.each i x hx).links hdi hn.octs hn.long ht.symm none th)
        have hul' := Lib.hid hul
        have hsp3 := Lib.hid hsp2
        clear hul hx hal hsp2 hq hy hn ht hdi
        go_enter Tryz.func90, Tryz.ntmps90
        go_wp2_with (first
          | (go_at_call 59; refine hfi'.out.mono ?_; rintro e w1 ⟨rfl, hb1⟩; have hB1 := Lib.hid hb1; have ck := ((h'.out.below hb1).node i x hx'.out).kind; clear hb1)
          | (go_at_call 141; refine (hsp3.out _ (h'.out.below hB1.out)).mono ?_; rintro e w2 ⟨rfl, hb2⟩; have hB2 := Lib.hid ((hB1.out.trans (hb2.mono hB1.out.size)).alloc ((hB1.out.trans (hb2.mono hB1.out.size)).size) (.cells #[.pointer (some ⟨A.nd d, 0, none⟩), .string (strOf nm), .pointer none] 171)); clear hb2 ck)
          | (go_at_call 130; refine (hpt.out _ (h'.out.below hB2.out)).mono ?_; rintro e w3 ⟨rfl, hT3, hS3⟩; have T3 := Lib.hid hT3; have S3 := Lib.hid ((TStep.of_below A hB2.out).trans hS3); clear hT3 hS3))
        go_ret
        rw [hul'.out]
        exact ⟨rfl, A, T3.out, S3.out⟩
      · rw [if_pos hc] at hul
        obtain ⟨o1, z, o2, hf⟩ := spV_form A s (s.place (nb q)).1 (s.place (nb q)).2
        have hsp2 : ∀ w', TreeAt w' B A s → Calls Tryz.prog 141 #[.pointer (some ⟨A.t, 0, none⟩), .string q] w' fun e w2 => e = .returned (.tuple #[.agg #[.pointer o1, .string z, .pointer o2], .int .i64 (s.free (nb q))]) ∧ Below w'.heap.size w' w2 := fun w' hw' => by
          have h3 := hsp.out w' hw'
          unfold SpotPost at h3
          rw [hf] at h3
          exact h3
        obtain ⟨c, hcc⟩ : ∃ c, s.free (nb q) = c := ⟨_, rfl⟩
        rw [hcc] at hsp2 hul hc
        have hul' := Lib.hid hul
        have hsp3 := Lib.hid hsp2
        have t0 : (c != 0) = true := by rw [bne_iff_ne]; exact hc
        clear hul hsp2 hf hcc hx hal
        go_enter Tryz.func90, Tryz.ntmps90
        go_wp2_with (first
          | (go_at_call 59; refine hfi'.out.mono ?_; rintro e w1 ⟨rfl, hb1⟩; have hB1 := Lib.hid hb1; have ck := ((h'.out.below hb1).node i x hx'.out).kind; clear hb1)
          | (go_at_call 141; refine (hsp3.out _ (h'.out.below hB1.out)).mono ?_; rintro e w2 ⟨rfl, hb2⟩; have hB2 := Lib.hid ((hB1.out.trans (hb2.mono hB1.out.size)).alloc ((hB1.out.trans (hb2.mono hB1.out.size)).size) (.cells #[.pointer o1, .string z, .pointer o2] 171)); clear hb2 ck))
        go_ret
        rw [hul'.out]
        exact ⟨rfl, A, h'.out.below hB2.out, TStep.of_below A hB2.out⟩
  · rw [if_pos hc1] at hul
    have hul' := Lib.hid hul
    have t0 : (c1 != 0) = true := by rw [bne_iff_ne]; exact hc1
    clear hul hal
    go_enter Tryz.func90, Tryz.ntmps90
    go_wp2_with (go_at_call 59; refine hfi'.out.mono ?_; rintro e w1 ⟨rfl, hb1⟩; have hB1 := Lib.hid hb1; clear hb1)
    go_ret
    rw [hul'.out]
    exact ⟨rfl, A, h'.out.below hB1.out, TStep.of_below A hB1.out⟩
end
end Go.Proofs.YtgcodlicbdaddaaGreatDoor
end
