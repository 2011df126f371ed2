/-
  What holds of a tree while a node has no name yet; what each step keeps of it.
  A descriptor ends.
-/
import Derived.Test.YtgcodlicbdaddaaGreatDoorB21
import Derived.Test.YtgcodlicbdaddaaGreatDoorB6

section
set_option linter.unusedVariables false
set_option linter.unusedSimpArgs false
namespace Go.Proofs.YtgcodlicbdaddaaGreatDoor

/-- all that holds of a tree, but for the nodes of E, which may lack a name and a descriptor -/
structure OkE (b : Nat) (s : Tr) (E : Nat → Prop) : Prop where
  root : s.opt 1 ≠ none ∧ (s.at 1).kind = 2 ∧ (s.at 1).up = 0
  zero : s.opt 0 = none
  len : 2 ≤ s.nd.length ∧ s.nd.length ≤ b + 2
  each : ∀ i x, s.opt i = some x → NodeOk b x
  ent : ∀ i x, s.opt i = some x → ∀ e ∈ x.ents, ∃ y, s.opt e.2 = some y ∧ (y.kind = 2 → y.up = i ∧ y.nm = e.1)
  up : ∀ i x, s.opt i = some x → x.up ≠ 0 → ∃ y, s.opt x.up = some y ∧ y.kind = 2 ∧ (x.nm, i) ∈ y.ents
  dep : ∃ d : Nat → Nat, ∀ i x, s.opt i = some x → x.up ≠ 0 → d i = d x.up + 1 ∧ d i ≤ 20
  cnt : ∀ i x, s.opt i = some x → x.links = refsL i s.nd + (if i = 1 then 1 else 0)
  lost : ∀ i x, s.opt i = some x → x.kind = 2 → i ≠ 1 → x.up = 0 → x.links = 0 ∧ (x.ents = [] ∨ E i)
  held : ∀ i x, s.opt i = some x → x.links = 0 → E i ∨ heldB s.tb i 16 = true
  tabs : s.tb.length = 16 ∧ ∀ k, k < 16 → (pl s.tb k).on = true → ∃ i x, (pl s.tb k).nd = ((i : Nat) : Int) ∧ s.opt i = some x ∧ x.kind ≠ 3 ∧ 0 ≤ (pl s.tb k).fl ∧ (pl s.tb k).fl ≤ 63 ∧ 0 ≤ (pl s.tb k).off ∧ (pl s.tb k).off ≤ 1099511627776 ∧ (bitF (pl s.tb k).fl 32 = true → x.kind = 1)
section
variable {b : Nat} {s : Tr} {E : Nat → Prop}
theorem Ok.e (h : Ok b s) : OkE b s fun _ => False :=
  ⟨h.root, h.zero, h.len, h.each, h.ent, h.up, h.dep, h.cnt, fun i x h1 h2 h3 h4 => ⟨(h.lost i x h1 h2 h3 h4).2, .inl (h.lost i x h1 h2 h3 h4).1⟩, fun i x h1 h2 => .inr (h.held i x h1 h2), h.tabs⟩
theorem OkE.ok (h : OkE b s E) (hE : ∀ i, ¬ E i) : Ok b s :=
  ⟨h.root, h.zero, h.len, h.each, h.ent, h.up, h.dep, h.cnt, fun i x h1 h2 h3 h4 => ⟨(h.lost i x h1 h2 h3 h4).2.resolve_right (hE i), (h.lost i x h1 h2 h3 h4).1⟩, fun i x h1 h2 => (h.held i x h1 h2).resolve_left (hE i), h.tabs⟩
theorem NodeOk.mono {b b' : Nat} {x : Nd} (h : NodeOk b x) (hb : b ≤ b') : NodeOk b' x :=
  ⟨h.kind, h.noent, h.link, h.dir, h.sorted, h.names, Nat.le_trans h.links hb, Nat.le_trans h.most hb, Nat.le_trans h.few hb, h.nm, h.nml⟩
theorem OkE.mono {b' : Nat} (h : OkE b s E) (hb : b ≤ b') : OkE b' s E :=
  ⟨h.root, h.zero, ⟨h.len.1, by have := h.len.2; omega⟩, fun i x hx => (h.each i x hx).mono hb, h.ent, h.up, h.dep, h.cnt, h.lost, h.held, h.tabs⟩
theorem OkE.weak {E' : Nat → Prop} (h : OkE b s E) (hE : ∀ i x, s.opt i = some x → E i → E' i) : OkE b s E' :=
  ⟨h.root, h.zero, h.len, h.each, h.ent, h.up, h.dep, h.cnt, fun i x h1 h2 h3 h4 => ⟨(h.lost i x h1 h2 h3 h4).1, (h.lost i x h1 h2 h3 h4).2.imp_right (hE i x h1)⟩, fun i x h1 h2 => (h.held i x h1 h2).imp_left (hE i x h1), h.tabs⟩
theorem Ok.mono {b' : Nat} (h : Ok b s) (hb : b ≤ b') : Ok b' s := (h.e.mono hb).ok fun _ h => h
theorem OkE.pos (h : OkE b s E) {i : Nat} {x : Nd} (hx : s.opt i = some x) : i ≠ 0 := fun e => by rw [e, h.zero] at hx; cases hx
theorem OkE.ent_pos (h : OkE b s E) {i : Nat} {x : Nd} (hx : s.opt i = some x) : ∀ e ∈ x.ents, e.2 ≠ 0 := fun e he => by
  obtain ⟨y, hy, _⟩ := h.ent i x hx e he
  exact h.pos hy
theorem OkE.links_pos (ho : OkE b s E) {d i : Nat} {y x : Nd} {p : List Nat} (hd : s.opt d = some y) (hi : s.opt i = some x) (hp : (p, i) ∈ y.ents) : 1 ≤ x.links := by
  have h1 := ho.cnt i x hi
  have h2 := refsL_ge (i := i) (Tr.opt_get hd)
  have h3 := refsE_pos hp
  omega
theorem OkE.root_links (h : OkE b s E) {x : Nd} (hx : s.opt 1 = some x) : 1 ≤ x.links := by have := h.cnt 1 x hx; simp at this; omega
theorem OkE.root_at (h : OkE b s E) {x : Nd} (hx : s.opt 1 = some x) : x.kind = 2 ∧ x.up = 0 := by have := h.root.2; rw [Tr.at_of hx] at this; exact this
theorem OkE.not_self (ho : OkE b s E) {d i : Nat} {y : Nd} (hd : s.opt d = some y) (hk : y.kind = 2) {p : List Nat} (hp : (p, i) ∈ y.ents) : d ≠ i := fun e => by
  subst e
  obtain ⟨z, hz, hup⟩ := ho.ent d y hd _ hp
  have hz' : s.opt d = some z := hz
  rw [hd] at hz'
  obtain rfl := Option.some.inj hz'
  obtain ⟨h1, _⟩ := hup hk
  obtain ⟨f, hf⟩ := ho.dep
  have h2 := hf d y hd (by rw [h1]; exact ho.pos hd)
  rw [h1] at h2
  omega
theorem unnamed_dir {x : Nd} (h : x.kind = 2) : x.unnamed = { x with links := x.links - 1, up := 0, nm := [] } := by unfold Nd.unnamed; rw [if_pos h]
theorem unnamed_other {x : Nd} (h : x.kind ≠ 2) : x.unnamed = { x with links := x.links - 1 } := by unfold Nd.unnamed; rw [if_neg h]
theorem named_dir {x : Nd} {d : Nat} {p : List Nat} (h : x.kind = 2) : x.named d p = { x with links := x.links + 1, up := d, nm := p } := by unfold Nd.named; rw [if_pos h]
theorem named_other {x : Nd} {d : Nat} {p : List Nat} (h : x.kind ≠ 2) : x.named d p = { x with links := x.links + 1 } := by unfold Nd.named; rw [if_neg h]
theorem unnamed_kind (x : Nd) : x.unnamed.kind = x.kind := by unfold Nd.unnamed; split <;> rfl
theorem unnamed_links (x : Nd) : x.unnamed.links = x.links - 1 := by unfold Nd.unnamed; split <;> rfl
theorem unnamed_ents (x : Nd) : x.unnamed.ents = x.ents := by unfold Nd.unnamed; split <;> rfl
theorem named_kind (x : Nd) (d : Nat) (p : List Nat) : (x.named d p).kind = x.kind := by unfold Nd.named; split <;> rfl
theorem named_links (x : Nd) (d : Nat) (p : List Nat) : (x.named d p).links = x.links + 1 := by unfold Nd.named; split <;> rfl
theorem named_ents (x : Nd) (d : Nat) (p : List Nat) : (x.named d p).ents = x.ents := by unfold Nd.named; split <;> rfl
theorem NodeOk.unnamed {x : Nd} (h : NodeOk b x) : NodeOk b x.unnamed := by
  by_cases hk : x.kind = 2
  · rw [unnamed_dir hk]
    exact ⟨h.kind, fun h2 => absurd hk h2, h.link, h.dir, h.sorted, h.names, by have := h.links; show x.links - 1 ≤ b; omega, h.most, h.few, .nil, Nat.zero_le _⟩
  · rw [unnamed_other hk]
    exact ⟨h.kind, h.noent, h.link, h.dir, h.sorted, h.names, by have := h.links; show x.links - 1 ≤ b; omega, h.most, h.few, h.nm, h.nml⟩
theorem NodeOk.named {x : Nd} (h : NodeOk b x) (d : Nat) {p : List Nat} (hp : NameP p) : NodeOk (b + 1) (x.named d p) := by
  have h' := h.mono (Nat.le_succ b)
  have hl : x.links + 1 ≤ b + 1 := Nat.succ_le_succ h.links
  by_cases hk : x.kind = 2
  · rw [named_dir hk]
    exact ⟨h'.kind, fun h2 => absurd hk h2, h'.link, h'.dir, h'.sorted, h'.names, hl, h'.most, h'.few, hp.octs, hp.long⟩
  · rw [named_other hk]
    exact ⟨h'.kind, h'.noent, h'.link, h'.dir, h'.sorted, h'.names, hl, h'.most, h'.few, h'.nm, h'.nml⟩
theorem NodeOk.enter {x : Nd} (h : NodeOk b x) (hk : x.kind = 2) {p : List Nat} (hp : NameP p) (i : Nat) (hf : ∀ e ∈ x.ents, e.1 ≠ p) : NodeOk (b + 1) (x.enter p i) := by
  have h' := h.mono (Nat.le_succ b)
  refine ⟨h'.kind, fun h2 => absurd hk h2, h'.link, h'.dir, rise_insE h.sorted hf, fun e he => ?_, h'.links, ?_, ?_, h'.nm, h'.nml⟩
  · rcases mem_insE.1 he with rfl | he
    · exact hp
    · exact h.names e he
  · show max x.most (x.ents.length + 1) ≤ b + 1
    have h1 := h.most; have h2 := h.few; omega
  · show (insE p i x.ents).length ≤ b + 1
    rw [insE_length]; have h2 := h.few; omega
theorem NodeOk.lessen {x : Nd} (h : NodeOk b x) (hk : x.kind = 2) (p : List Nat) : NodeOk b { x with ents := delE p x.ents } :=
  ⟨h.kind, fun h2 => absurd hk h2, h.link, h.dir, rise_delE h.sorted, fun e he => h.names e (mem_delE.1 he).1, h.links, h.most, Nat.le_trans (List.length_filter_le _ _) h.few, h.nm, h.nml⟩

/-! ### A name is taken away -/
theorem OkE.take (h : OkE b s E) {d i : Nat} {y x : Nd} {nm : List Nat} (hd : s.opt d = some y) (hk : y.kind = 2) (hi : s.opt i = some x) (hm : (nm, i) ∈ y.ents) : OkE b (s.take ⟨d, nm, i⟩) fun j => E j ∨ j = i := by
  have hdi := h.not_self hd hk hm
  have hop := Tr.opt_take hd hi hdi nm
  have hrf := Tr.take_refs hd hi hdi (h.each d y hd).sorted hm
  have hlp := h.links_pos hd hi hm
  have hxd : x.kind = 2 → x.up = d ∧ x.nm = nm := fun h2 => by
    obtain ⟨z, hz, hu⟩ := h.ent d y hd _ hm
    have hz' : s.opt i = some z := hz
    rw [hi] at hz'
    obtain rfl := Option.some.inj hz'
    exact hu h2
  have hi1 : i ≠ 1 := fun e => by
    subst e
    have h1 := h.root_at hi
    have h2 := (hxd h1.1).1
    rw [h1.2] at h2
    exact h.pos hd h2.symm
  refine ⟨?_, ?_, ?_, fun j z hz => ?_, fun j z hz e he => ?_, fun j z hz hu => ?_, ?_, fun j z hz => ?_, fun j z hz h2 hj hu => ?_, fun j z hz hl => ?_, ?_⟩
  · obtain ⟨r1, r2, r3⟩ := h.root
    have h1 : (s.take ⟨d, nm, i⟩).opt 1 = if 1 = d then some { y with ents := delE nm y.ents } else s.opt 1 := by rw [hop, if_neg (Ne.symm hi1)]
    by_cases e : 1 = d
    · rw [if_pos e] at h1
      subst e
      exact ⟨by rw [h1]; exact Option.some_ne_none _, by rw [Tr.at_of h1]; exact hk, by rw [Tr.at_of h1]; exact (h.root_at hd).2⟩
    · rw [if_neg e] at h1
      refine ⟨by rw [h1]; exact r1, ?_, ?_⟩ <;> unfold Tr.at <;> rw [h1]
      · exact r2
      · exact r3
  · rw [hop, if_neg (Ne.symm (h.pos hi)), if_neg (Ne.symm (h.pos hd))]; exact h.zero
  · rw [Tr.take_len hd hi hdi]; exact h.len
  · rw [hop] at hz
    by_cases e1 : j = i
    · rw [if_pos e1] at hz; obtain rfl := Option.some.inj hz; exact (h.each i x hi).unnamed
    · rw [if_neg e1] at hz
      by_cases e2 : j = d
      · rw [if_pos e2] at hz; obtain rfl := Option.some.inj hz; exact (h.each d y hd).lessen hk nm
      · rw [if_neg e2] at hz; exact h.each j z hz
  · -- entries
    obtain ⟨z0, hz0, he0, hne⟩ : ∃ z0, s.opt j = some z0 ∧ e ∈ z0.ents ∧ (j = d → e.1 ≠ nm) := by
      rw [hop] at hz
      by_cases e1 : j = i
      · rw [if_pos e1] at hz; obtain rfl := Option.some.inj hz
        rw [unnamed_ents] at he
        exact ⟨x, by rw [e1]; exact hi, he, fun e2 => absurd (e2.symm.trans e1) hdi⟩
      · rw [if_neg e1] at hz
        by_cases e2 : j = d
        · rw [if_pos e2] at hz; obtain rfl := Option.some.inj hz
          have he' : e ∈ delE nm y.ents := he
          exact ⟨y, by rw [e2]; exact hd, (mem_delE.1 he').1, fun _ => (mem_delE.1 he').2⟩
        · rw [if_neg e2] at hz; exact ⟨z, hz, he, fun h3 => absurd h3 e2⟩
    obtain ⟨v, hv, hvu⟩ := h.ent j z0 hz0 e he0
    by_cases e1 : e.2 = i
    · rw [hop, if_pos e1]
      refine ⟨_, rfl, fun h2 => ?_⟩
      rw [e1, hi] at hv
      obtain rfl := Option.some.inj hv
      rw [unnamed_kind] at h2
      obtain ⟨u1, u2⟩ := hvu h2
      obtain ⟨u3, u4⟩ := hxd h2
      exact absurd (u2.symm.trans u4) (hne (u1.symm.trans u3))
    · by_cases e2 : e.2 = d
      · rw [hop, if_neg e1, if_pos e2]
        rw [e2, hd] at hv
        obtain rfl := Option.some.inj hv
        exact ⟨_, rfl, fun _ => hvu hk⟩
      · rw [hop, if_neg e1, if_neg e2]
        exact ⟨v, hv, hvu⟩
  · -- up
    obtain ⟨z0, hz0, hu0, hn0, hji⟩ : ∃ z0, s.opt j = some z0 ∧ z.up = z0.up ∧ z.nm = z0.nm ∧ j ≠ i := by
      rw [hop] at hz
      by_cases e1 : j = i
      · rw [if_pos e1] at hz; obtain rfl := Option.some.inj hz
        by_cases hk2 : x.kind = 2
        · rw [unnamed_dir hk2] at hu; exact absurd rfl hu
        · rw [unnamed_other hk2] at hu; exact absurd ((h.each i x hi).noent hk2).2 hu
      · rw [if_neg e1] at hz
        by_cases e2 : j = d
        · rw [if_pos e2] at hz; obtain rfl := Option.some.inj hz
          exact ⟨y, by rw [e2]; exact hd, rfl, rfl, e1⟩
        · rw [if_neg e2] at hz; exact ⟨z, hz, rfl, rfl, e1⟩
    rw [hu0, hn0]
    rw [hu0] at hu
    obtain ⟨v, hv, hvk, hvm⟩ := h.up j z0 hz0 hu
    by_cases e1 : z0.up = i
    · rw [hop, if_pos e1]
      rw [e1, hi] at hv
      obtain rfl := Option.some.inj hv
      exact ⟨_, rfl, by rw [unnamed_kind]; exact hvk, by rw [unnamed_ents]; exact hvm⟩
    · by_cases e2 : z0.up = d
      · rw [hop, if_neg e1, if_pos e2]
        rw [e2, hd] at hv
        obtain rfl := Option.some.inj hv
        refine ⟨_, rfl, hvk, mem_delE.2 ⟨hvm, fun e3 => ?_⟩⟩
        have e3' : z0.nm = nm := e3
        rw [e3'] at hvm
        exact hji (rise_one (h.each d y hd).sorted hvm hm)
      · rw [hop, if_neg e1, if_neg e2]
        exact ⟨v, hv, hvk, hvm⟩
  · obtain ⟨f, hf⟩ := h.dep
    refine ⟨f, fun j z hz hu => ?_⟩
    rw [hop] at hz
    by_cases e1 : j = i
    · rw [if_pos e1] at hz; obtain rfl := Option.some.inj hz
      by_cases hk2 : x.kind = 2
      · rw [unnamed_dir hk2] at hu; exact absurd rfl hu
      · rw [unnamed_other hk2] at hu; exact absurd ((h.each i x hi).noent hk2).2 hu
    · rw [if_neg e1] at hz
      by_cases e2 : j = d
      · rw [if_pos e2] at hz; obtain rfl := Option.some.inj hz
        rw [e2]; exact hf d y hd hu
      · rw [if_neg e2] at hz; exact hf j z hz hu
  · have h1 := hrf j
    rw [hop] at hz
    by_cases e1 : j = i
    · rw [if_pos e1] at hz; obtain rfl := Option.some.inj hz
      have h2 := h.cnt i x hi
      rw [← e1] at h2
      rw [if_pos e1.symm] at h1
      rw [unnamed_links]
      omega
    · rw [if_neg e1] at hz
      rw [if_neg (Ne.symm e1)] at h1
      by_cases e2 : j = d
      · rw [if_pos e2] at hz; obtain rfl := Option.some.inj hz
        have h2 := h.cnt d y hd
        rw [← e2] at h2
        show y.links = _
        omega
      · rw [if_neg e2] at hz
        have h2 := h.cnt j z hz
        omega
  · rw [hop] at hz
    by_cases e1 : j = i
    · rw [if_pos e1] at hz; obtain rfl := Option.some.inj hz
      rw [unnamed_kind] at h2
      refine ⟨?_, .inr (.inr e1)⟩
      have h3 := hrf j
      have h4 := h.cnt i x hi
      rw [if_pos e1.symm] at h3
      rw [if_neg hi1] at h4
      have h5 : refsL i (s.take ⟨d, nm, i⟩).nd = 0 := refs_zero fun k v hv e he e2 => by
        -- a directory has one name alone
        rw [hop] at hv
        obtain ⟨v0, hv0, he0, hne⟩ : ∃ v0, s.opt k = some v0 ∧ e ∈ v0.ents ∧ (k = d → e.1 ≠ nm) := by
          by_cases k1 : k = i
          · rw [if_pos k1] at hv; obtain rfl := Option.some.inj hv
            rw [unnamed_ents] at he
            exact ⟨x, by rw [k1]; exact hi, he, fun e3 => absurd (e3.symm.trans k1) hdi⟩
          · rw [if_neg k1] at hv
            by_cases k2 : k = d
            · rw [if_pos k2] at hv; obtain rfl := Option.some.inj hv
              have he' : e ∈ delE nm y.ents := he
              exact ⟨y, by rw [k2]; exact hd, (mem_delE.1 he').1, fun _ => (mem_delE.1 he').2⟩
            · rw [if_neg k2] at hv; exact ⟨v, hv, he, fun h3 => absurd h3 k2⟩
        obtain ⟨z1, hz1, hzu⟩ := h.ent k v0 hv0 e he0
        rw [e2, hi] at hz1
        obtain rfl := Option.some.inj hz1
        obtain ⟨u1, u2⟩ := hzu h2
        obtain ⟨u3, u4⟩ := hxd h2
        exact hne (u1.symm.trans u3) (u2.symm.trans u4)
      rw [unnamed_links]
      rw [e1] at h3
      omega
    · rw [if_neg e1] at hz
      by_cases e2 : j = d
      · rw [if_pos e2] at hz; obtain rfl := Option.some.inj hz
        obtain ⟨h3, h4⟩ := h.lost d y hd hk (e2 ▸ hj) hu
        refine ⟨h3, ?_⟩
        rcases h4 with h4 | h4
        · rw [h4] at hm; cases hm
        · exact .inr (.inl (e2 ▸ h4))
      · rw [if_neg e2] at hz
        obtain ⟨h3, h4⟩ := h.lost j z hz h2 hj hu
        exact ⟨h3, h4.imp_right .inl⟩
  · rw [hop] at hz
    by_cases e1 : j = i
    · exact .inl (.inr e1)
    · rw [if_neg e1] at hz
      by_cases e2 : j = d
      · rw [if_pos e2] at hz; obtain rfl := Option.some.inj hz
        have := h.held d y hd hl
        rw [Tr.take_tb, e2]
        exact this.imp_left .inl
      · rw [if_neg e2] at hz
        rw [Tr.take_tb]
        exact (h.held j z hz hl).imp_left .inl
  · rw [Tr.take_tb]
    refine ⟨h.tabs.1, fun k hk16 hon => ?_⟩
    obtain ⟨j, z, e1, hz, e3, e4, e5, e6, e7, e8⟩ := h.tabs.2 k hk16 hon
    by_cases k1 : j = i
    · subst k1
      rw [hi] at hz
      obtain rfl := Option.some.inj hz
      exact ⟨j, x.unnamed, e1, by rw [hop, if_pos rfl], by rw [unnamed_kind]; exact e3, e4, e5, e6, e7, by rw [unnamed_kind]; exact e8⟩
    · by_cases k2 : j = d
      · subst k2
        rw [hd] at hz
        obtain rfl := Option.some.inj hz
        exact ⟨j, { y with ents := delE nm y.ents }, e1, by rw [hop, if_neg k1, if_pos rfl], e3, e4, e5, e6, e7, e8⟩
      · exact ⟨j, z, e1, by rw [hop, if_neg k1, if_neg k2]; exact hz, e3, e4, e5, e6, e7, e8⟩

/-! ### A name is given -/
theorem OkE.hang (h : OkE b s E) {d i : Nat} {y x : Nd} {nm : List Nat} (th : Nat) (hd : s.opt d = some y) (hk : y.kind = 2) (hi : s.opt i = some x) (hdi : d ≠ i) (hnm : NameP nm) (hfr : lookE y.ents nm = 0) (hlive : d = 1 ∨ y.up ≠ 0)
    (hdir : x.kind = 2 → x.up = 0 ∧ i ≠ 1) (hdep : ∃ f : Nat → Nat, ∀ j z, (s.hang ⟨d, nm, th⟩ i).opt j = some z → z.up ≠ 0 → f j = f z.up + 1 ∧ f j ≤ 20) : OkE (b + 1) (s.hang ⟨d, nm, th⟩ i) fun j => E j ∧ j ≠ i := by
  have hop := Tr.opt_hang hd hi hdi nm th
  have hrf := Tr.hang_refs hd hi hdi nm th
  have hno := look_none hfr (h.ent_pos hd)
  have h' := h.mono (Nat.le_succ b)
  have hx0 : x.kind = 2 → x.links = 0 := fun h2 => (h.lost i x hi h2 (hdir h2).2 (hdir h2).1).1
  have hnr : x.kind = 2 → ∀ k v, s.opt k = some v → ∀ e ∈ v.ents, e.2 ≠ i := fun h2 k v hv => by
    have h3 := h.cnt i x hi
    rw [hx0 h2] at h3
    exact refs_none (by omega) hv
  have hi1 : i ≠ 1 := fun e => by
    subst e
    exact (hdir (h.root_at hi).1).2 rfl
  refine ⟨?_, ?_, ?_, fun j z hz => ?_, fun j z hz e he => ?_, fun j z hz hu => ?_, hdep, fun j z hz => ?_, fun j z hz h2 hj hu => ?_, fun j z hz hl => ?_, ?_⟩
  · obtain ⟨r1, r2, r3⟩ := h.root
    have h1 : (s.hang ⟨d, nm, th⟩ i).opt 1 = if 1 = d then some (y.enter nm i) else s.opt 1 := by rw [hop, if_neg (Ne.symm hi1)]
    by_cases e : 1 = d
    · rw [if_pos e] at h1
      subst e
      exact ⟨by rw [h1]; exact Option.some_ne_none _, by rw [Tr.at_of h1]; exact hk, by rw [Tr.at_of h1]; exact (h.root_at hd).2⟩
    · rw [if_neg e] at h1
      refine ⟨by rw [h1]; exact r1, ?_, ?_⟩ <;> unfold Tr.at <;> rw [h1]
      · exact r2
      · exact r3
  · rw [hop, if_neg (Ne.symm (h.pos hi)), if_neg (Ne.symm (h.pos hd))]; exact h.zero
  · rw [Tr.hang_len hd hi hdi]; exact h'.len
  · rw [hop] at hz
    by_cases e1 : j = i
    · rw [if_pos e1] at hz; obtain rfl := Option.some.inj hz; exact (h.each i x hi).named d hnm
    · rw [if_neg e1] at hz
      by_cases e2 : j = d
      · rw [if_pos e2] at hz; obtain rfl := Option.some.inj hz; exact (h.each d y hd).enter hk hnm i hno
      · rw [if_neg e2] at hz; exact h'.each j z hz
  · -- entries
    have hold : ∀ k v, s.opt k = some v → e ∈ v.ents → ∃ u, (s.hang ⟨d, nm, th⟩ i).opt e.2 = some u ∧ (u.kind = 2 → u.up = k ∧ u.nm = e.1) := fun k v hv he0 => by
      obtain ⟨u, hu, huu⟩ := h.ent k v hv e he0
      by_cases e1 : e.2 = i
      · rw [e1, hi] at hu
        obtain rfl := Option.some.inj hu
        refine ⟨_, by rw [hop, if_pos e1], fun h2 => ?_⟩
        rw [named_kind] at h2
        exact absurd e1 (hnr h2 k v hv e he0)
      · by_cases e2 : e.2 = d
        · rw [e2, hd] at hu
          obtain rfl := Option.some.inj hu
          exact ⟨y.enter nm i, by rw [hop, if_neg e1, if_pos e2], fun _ => huu hk⟩
        · exact ⟨u, by rw [hop, if_neg e1, if_neg e2]; exact hu, huu⟩
    rw [hop] at hz
    by_cases e1 : j = i
    · rw [if_pos e1] at hz; obtain rfl := Option.some.inj hz
      rw [named_ents] at he
      rw [e1]
      exact hold i x hi he
    · rw [if_neg e1] at hz
      by_cases e2 : j = d
      · rw [if_pos e2] at hz; obtain rfl := Option.some.inj hz
        have he' : e ∈ insE nm i y.ents := he
        rw [e2]
        rcases mem_insE.1 he' with e3 | he'
        · subst e3
          refine ⟨_, by rw [hop, if_pos rfl], fun h2 => ?_⟩
          rw [named_kind] at h2
          rw [named_dir h2]
          exact ⟨rfl, rfl⟩
        · exact hold d y hd he'
      · rw [if_neg e2] at hz
        exact hold j z hz he
  · -- up
    have hold : ∀ k v, s.opt k = some v → v.up ≠ 0 → ∃ u, (s.hang ⟨d, nm, th⟩ i).opt v.up = some u ∧ u.kind = 2 ∧ (v.nm, k) ∈ u.ents := fun k v hv hvu => by
      obtain ⟨u, hu, huk, hum⟩ := h.up k v hv hvu
      by_cases e1 : v.up = i
      · rw [e1, hi] at hu
        obtain rfl := Option.some.inj hu
        exact ⟨_, by rw [hop, if_pos e1], by rw [named_kind]; exact huk, by rw [named_ents]; exact hum⟩
      · by_cases e2 : v.up = d
        · rw [e2, hd] at hu
          obtain rfl := Option.some.inj hu
          exact ⟨y.enter nm i, by rw [hop, if_neg e1, if_pos e2], hk, mem_insE.2 (.inr hum)⟩
        · exact ⟨u, by rw [hop, if_neg e1, if_neg e2]; exact hu, huk, hum⟩
    rw [hop] at hz
    by_cases e1 : j = i
    · rw [if_pos e1] at hz; obtain rfl := Option.some.inj hz
      by_cases h2 : x.kind = 2
      · rw [named_dir h2]
        refine ⟨y.enter nm i, by show (s.hang ⟨d, nm, th⟩ i).opt d = _; rw [hop, if_neg hdi, if_pos rfl], hk, ?_⟩
        rw [e1]
        exact mem_insE.2 (.inl rfl)
      · rw [named_other h2] at hu
        exact absurd ((h.each i x hi).noent h2).2 hu
    · rw [if_neg e1] at hz
      by_cases e2 : j = d
      · rw [if_pos e2] at hz; obtain rfl := Option.some.inj hz
        rw [e2]
        exact hold d y hd hu
      · rw [if_neg e2] at hz
        exact hold j z hz hu
  · have h1 := hrf j
    rw [hop] at hz
    by_cases e1 : j = i
    · rw [if_pos e1] at hz; obtain rfl := Option.some.inj hz
      have h2 := h.cnt i x hi
      rw [← e1] at h2
      rw [if_pos e1.symm] at h1
      rw [named_links]
      omega
    · rw [if_neg e1] at hz
      rw [if_neg (Ne.symm e1)] at h1
      by_cases e2 : j = d
      · rw [if_pos e2] at hz; obtain rfl := Option.some.inj hz
        have h2 := h.cnt d y hd
        rw [← e2] at h2
        show y.links = _
        omega
      · rw [if_neg e2] at hz
        have h2 := h.cnt j z hz
        omega
  · rw [hop] at hz
    by_cases e1 : j = i
    · rw [if_pos e1] at hz; obtain rfl := Option.some.inj hz
      rw [named_kind] at h2
      rw [named_dir h2] at hu
      exact absurd hu (h.pos hd)
    · rw [if_neg e1] at hz
      by_cases e2 : j = d
      · rw [if_pos e2] at hz; obtain rfl := Option.some.inj hz
        rcases hlive with e3 | e3
        · exact absurd (e2.trans e3) hj
        · exact absurd hu e3
      · rw [if_neg e2] at hz
        obtain ⟨h3, h4⟩ := h.lost j z hz h2 hj hu
        exact ⟨h3, h4.imp_right fun h5 => ⟨h5, e1⟩⟩
  · rw [hop] at hz
    by_cases e1 : j = i
    · rw [if_pos e1] at hz; obtain rfl := Option.some.inj hz
      rw [named_links] at hl; omega
    · rw [if_neg e1] at hz
      by_cases e2 : j = d
      · rw [if_pos e2] at hz; obtain rfl := Option.some.inj hz
        have := h.held d y hd hl
        rw [Tr.hang_tb, e2]
        exact this.imp_left fun h5 => ⟨h5, hdi⟩
      · rw [if_neg e2] at hz
        rw [Tr.hang_tb]
        exact (h.held j z hz hl).imp_left fun h5 => ⟨h5, e1⟩
  · rw [Tr.hang_tb]
    refine ⟨h.tabs.1, fun k hk16 hon => ?_⟩
    obtain ⟨j, z, e1, hz, e3, e4, e5, e6, e7, e8⟩ := h.tabs.2 k hk16 hon
    by_cases k1 : j = i
    · subst k1
      rw [hi] at hz
      obtain rfl := Option.some.inj hz
      exact ⟨j, _, e1, by rw [hop, if_pos rfl], by rw [named_kind]; exact e3, e4, e5, e6, e7, by rw [named_kind]; exact e8⟩
    · by_cases k2 : j = d
      · subst k2
        rw [hd] at hz
        obtain rfl := Option.some.inj hz
        exact ⟨j, y.enter nm i, e1, by rw [hop, if_neg k1, if_pos rfl], e3, e4, e5, e6, e7, e8⟩
      · exact ⟨j, z, e1, by rw [hop, if_neg k1, if_neg k2]; exact hz, e3, e4, e5, e6, e7, e8⟩
end
end Go.Proofs.YtgcodlicbdaddaaGreatDoor
end

section
set_option linter.unusedVariables false
set_option linter.unusedSimpArgs false
namespace Go.Proofs.YtgcodlicbdaddaaGreatDoor
open Go.RowKit BigFrame
set_option maxRecDepth 100000

section
variable {w : World} {B b : Nat} {A : Ad} {s : Tr}
theorem TStep.turn {w w' : World} {A : Ad} (h : Turn A.f w w') (hf : A.own A.f ≠ none) : TStep w A w' A :=
  ⟨h.os, h.tape, h.output, h.size, fun k hk hn => h.block k hk (fun e => hf (by rw [← e]; exact hn)), fun _ _ => rfl, rfl⟩
/-- a place's node -/
theorem Ok.tab {b : Nat} {s : Tr} (ho : Ok b s) {fd : Int} (ht : thereB s.tb fd = true) : ∃ i x, (pl s.tb fd.toNat).nd = ((i : Nat) : Int) ∧ s.opt i = some x ∧ x.kind ≠ 3 ∧ 0 ≤ (pl s.tb fd.toNat).fl ∧ (pl s.tb fd.toNat).fl ≤ 63 ∧ 0 ≤ (pl s.tb fd.toNat).off ∧ (pl s.tb fd.toNat).off ≤ 1099511627776 ∧ (bitF (pl s.tb fd.toNat).fl 32 = true → x.kind = 1) := by
  obtain ⟨k, rfl, hk, hon⟩ := there_k ht
  exact ho.tabs.2 k hk hon
theorem close_any (h : TreeAt w B A s) (ho : Ok b s) (hb : b ≤ 900000) (fd : Int) :
    Calls Tryz.prog 80 #[.pointer (some ⟨A.t, 0, none⟩), .int .i64 fd] w (CodePost B A (s.close fd).2 (s.close fd).1.code w) := by
  have cf := h.files
  have h' := Lib.hid h
  have hcl := close_u A.f fd s.tb w h.tab
  have hul : s.close fd = if thereB s.tb fd = true then (ans0, ({ s with tb := s.tb.set fd.toNat p0 } : Tr).leave (pl s.tb fd.toNat).nd.toNat) else (ansC 10, s) := rfl
  unfold cR cC cL at hcl
  by_cases ht : thereB s.tb fd = true
  · obtain ⟨i, x, hn, hx, _⟩ := ho.tab ht
    simp only [if_pos ht, hn] at hcl
    rw [if_pos ht, hn, Int.toNat_natCast] at hul
    have hul' := Lib.hid hul
    have hcl' := Lib.hid hcl
    have hx' := Lib.hid hx
    have hlv := Lib.hid (fun w' (hw' : TreeAt w' B A { s with tb := s.tb.set fd.toNat p0 }) => leave_any hw' (by show s.nd.length ≤ _; have := ho.len; omega) (i := i) (x := x) hx)
    have hlt := Lib.hid (show i < 1000000000 by have := Tr.opt_lt hx; have := ho.len; omega)
    have hget := Lib.hid (fun w' (hw' : TreeAt w' B A { s with tb := s.tb.set fd.toNat p0 }) => show (Instr.lookup 68 (.map (some A.m)) (.int .i64 ((i : Nat) : Int)) false).run Tryz.prog w' = .ok (.pointer (some ⟨A.nd i, 0, none⟩)) w' by
      rw [hw'.get i hlt.out]
      unfold ptrO
      show Result.ok (if (s.opt i).isSome = true then ptrN A i else Value.pointer none) w' = _
      rw [if_pos (show (s.opt i).isSome = true by rw [hx]; rfl)]
      rfl)
    have hff := Lib.hid (show A.own A.f ≠ none by rw [h.rf]; simp)
    clear h hul hcl hx hn ht
    go_enter Tryz.func80, Tryz.ntmps80
    go_wp2_with (first
      | (go_at_call 133; refine hcl'.out.mono ?_; rintro e w1 ⟨rfl, hT1, hU1⟩; have T1 := Lib.hid (h'.out.set_tab hU1 hT1); have S1 := Lib.hid (TStep.turn hU1 hff.out); have cm := T1.out.maps; have cg := hget.out _ T1.out; clear hT1 hU1)
      | (go_at_call 134; refine (hlv.out _ T1.out).mono ?_; rintro e w2 ⟨rfl, hT2, hS2⟩; have T2 := Lib.hid hT2; have S2 := Lib.hid (S1.out.trans hS2); clear hT2 hS2))
    go_ret
    rw [hul'.out]
    exact ⟨rfl, A, T2.out, S2.out⟩
  · simp only [if_neg ht] at hcl
    rw [if_neg ht] at hul
    have hul' := Lib.hid hul
    have hcl' := Lib.hid hcl
    have hff := Lib.hid (show A.own A.f ≠ none by rw [h.rf]; simp)
    clear h hul hcl ht
    go_enter Tryz.func80, Tryz.ntmps80
    go_wp2_with (go_at_call 133; refine hcl'.out.mono ?_; rintro e w1 ⟨rfl, hT1, hU1⟩; have T1 := Lib.hid (h'.out.set_tab hU1 hT1); have S1 := Lib.hid (TStep.turn hU1 hff.out); clear hT1 hU1)
    go_ret
    rw [hul'.out]
    exact ⟨rfl, A, T1.out, S1.out⟩
end
end Go.Proofs.YtgcodlicbdaddaaGreatDoor
end
