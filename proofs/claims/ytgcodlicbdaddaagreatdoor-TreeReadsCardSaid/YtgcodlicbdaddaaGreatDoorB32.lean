/-
  A rename leaves a tree that may be; so does every operation.
  May a node stand at a place?
-/
import Derived.Test.YtgcodlicbdaddaaGreatDoorB31
import Derived.Test.YtgcodlicbdaddaaGreatDoorB16
import Derived.Test.YtgcodlicbdaddaaGreatDoorB17
import Derived.Test.YtgcodlicbdaddaaGreatDoorB30
import Derived.Deep.RegionWith

section
set_option linter.unusedVariables false
set_option linter.unusedSimpArgs false
namespace Go.Proofs.YtgcodlicbdaddaaGreatDoor

theorem ite_to {α : Type} {c : Prop} [Decidable c] {P : α → Prop} {a b : α} (h1 : P a) (h2 : P b) : P (if c then a else b) := by
  by_cases h : c
  · rw [if_pos h]; exact h1
  · rw [if_neg h]; exact h2
section
variable {b : Nat} {s : Tr}
/-- what stands behind a node's path, if it moves beneath another directory -/
def Tr.deepM (s : Tr) (i d j : Nat) : Nat := if s.within j i = true then (s.path j).length - (s.path i).length + ((s.path d).length + 1) else (s.path j).length
/-- nodes keep what is above them, but for one that moves -/
structure Shifted (s u : Tr) (i d : Nat) : Prop where
  up : ∀ j z, u.opt j = some z → z.up ≠ 0 → (j = i ∧ z.up = d) ∨ (j ≠ i ∧ ∃ z0, s.opt j = some z0 ∧ z0.up = z.up)
theorem Ok.dep_dir (h : Ok b s) {u : Tr} {i d bb : Nat} (hs : Shifted s u i d) (hw : s.within d i = false) (ho : s.overF 21 i bb ((s.path d).length + 1) = false) (hd : (s.path d).length + 1 ≤ 20) :
    ∃ f : Nat → Nat, ∀ j z, u.opt j = some z → z.up ≠ 0 → f j = f z.up + 1 ∧ f j ≤ 20 := by
  refine ⟨s.deepM i d, fun j z hz hu => ?_⟩
  rcases hs.up j z hz hu with ⟨rfl, e⟩ | ⟨hj, z0, hz0, e⟩
  · rw [e]
    unfold Tr.deepM
    have hjj : s.within j j = true := by rw [Tr.within_end (.inl rfl), decide_eq_true rfl]
    have hdj : ¬ s.within d j = true := by rw [hw]; decide
    rw [if_neg hdj, if_pos hjj, Nat.sub_self]
    omega
  · rw [← e] at hu ⊢
    obtain ⟨p1, p2⟩ := h.path_deep hz0 hu
    have p3 := h.within_up hz0 hu hj
    unfold Tr.deepM
    rw [p3]
    by_cases hwi : s.within z0.up i = true
    · rw [if_pos hwi, if_pos hwi]
      obtain ⟨y, hy, _⟩ := h.up j z0 hz0 hu
      obtain ⟨q1, _, _⟩ := h.over_deep ho _ z0.up y hy hwi (Nat.le_refl _)
      obtain ⟨_, _, q3⟩ := h.over_deep ho _ j z0 hz0 (by rw [p3]; exact hwi) (Nat.le_refl _)
      have := q3 hj
      omega
    · rw [if_neg hwi, if_neg hwi]
      exact ⟨p1, p2⟩
theorem Ok.dep_file (h : Ok b s) {u : Tr} {i d : Nat} (hs : Shifted s u i d) (hi : ∀ z, u.opt i = some z → z.up = 0) : ∃ f : Nat → Nat, ∀ j z, u.opt j = some z → z.up ≠ 0 → f j = f z.up + 1 ∧ f j ≤ 20 := by
  obtain ⟨f, hf⟩ := h.dep
  refine ⟨f, fun j z hz hu => ?_⟩
  rcases hs.up j z hz hu with ⟨rfl, _⟩ | ⟨_, z0, hz0, e⟩
  · exact absurd (hi z hz) hu
  · rw [← e] at hu ⊢
    exact hf j z0 hz0 hu
/-- hung at another place -/
theorem Ok.hang_moved (h : Ok b s) {u : Tr} {E : Nat → Prop} (hu : OkE b u E) {i d t : Nat} (hE : ∀ j, ¬ (E j ∧ j ≠ i)) {nm : List Nat} {y x : Nd} {bb : Nat} (hd : u.opt d = some y) (hk : y.kind = 2) (hi : u.opt i = some x) (hdi : d ≠ i) (hnm : NameP nm) (hfr : lookE y.ents nm = 0) (hlive : d = 1 ∨ y.up ≠ 0) (hx0 : x.kind = 2 → x.up = 0 ∧ i ≠ 1)
    (hold : ∀ j z, u.opt j = some z → z.up ≠ 0 → j ≠ i ∧ ∃ z0, s.opt j = some z0 ∧ z0.up = z.up)
    (hwd : x.kind = 2 → s.within d i = false) (ho : s.overF 21 i bb ((s.path d).length + 1) = false) (hfar : (s.path d).length + 1 ≤ 20) : Ok (b + 1) (u.hang ⟨d, nm, t⟩ i) := by
  have hsh : Shifted s (u.hang ⟨d, nm, t⟩ i) i d := ⟨fun j z hz huz => by
    rw [Tr.opt_hang hd hi hdi] at hz
    by_cases e1 : j = i
    · rw [if_pos e1] at hz
      obtain rfl := Option.some.inj hz
      by_cases h2 : x.kind = 2
      · rw [named_dir h2]; exact .inl ⟨e1, rfl⟩
      · rw [named_other h2] at huz
        exact absurd ((hu.each i x hi).noent h2).2 huz
    · rw [if_neg e1] at hz
      by_cases e2 : j = d
      · rw [if_pos e2] at hz
        obtain rfl := Option.some.inj hz
        obtain ⟨_, z0, p1, p2⟩ := hold d y hd huz
        exact .inr ⟨e1, z0, by rw [e2]; exact p1, p2⟩
      · rw [if_neg e2] at hz
        exact .inr (hold j z hz huz)⟩
  refine (hu.hang t hd hk hi hdi hnm hfr hlive hx0 ?_).ok fun j hj => hE j hj
  by_cases h2 : x.kind = 2
  · exact h.dep_dir hsh (hwd h2) ho hfar
  · refine h.dep_file hsh fun z hz => ?_
    rw [Tr.opt_hang hd hi hdi, if_pos rfl] at hz
    obtain rfl := Option.some.inj hz
    rw [named_other h2]
    exact ((hu.each i x hi).noent h2).2
/-- a name to be given, to be taken away -/
structure GiveAt (b : Nat) (s : Tr) (d i : Nat) (nm : List Nat) (y x : Nd) : Prop where
  dir : s.opt d = some y
  kind : y.kind = 2
  node : s.opt i = some x
  ok : NodeOk b y
  pos : ∀ e ∈ y.ents, e.2 ≠ 0
  few : x.links ≤ b
  apart : d ≠ i
  free : lookE y.ents nm = 0
structure LoseAt (b : Nat) (s : Tr) (d i : Nat) (y x : Nd) : Prop where
  dir : s.opt d = some y
  kind : y.kind = 2
  node : s.opt i = some x
  ok : NodeOk b y
  pos : ∀ e ∈ y.ents, e.2 ≠ 0
  few : x.links ≤ b
  apart : d ≠ i
  links : 1 ≤ x.links
theorem Ok.shift_both (h : Ok b s) {q r : Spot} {y z x : Nd} (hq : SpotAt b s q y) (hr : SpotAt b s r z) (h0 : q.there ≠ 0) (hx : s.opt q.there = some x) (hne : q.there ≠ r.there) (hm : s.mayMove q.there r = 0) : Ok (b + 1) (s.shift q r) ∧
    LoseAt b s q.dir q.there y x ∧ (r.there ≠ 0 → ∃ z1 v1, LoseAt b (s.take q) r.dir r.there z1 v1) ∧ ∃ z2 x2, GiveAt b (if r.there ≠ 0 then (s.take q).lose r else s.take q) r.dir q.there r.nm z2 x2 := by
  obtain ⟨d, nm, i⟩ := q
  obtain ⟨e, mm, t⟩ := r
  have hq1 : s.opt d = some y := hq.dir
  have hqk := hq.kind
  have hr1 : s.opt e = some z := hr.dir
  have hrk := hr.kind
  have hqm : (nm, i) ∈ y.ents := look_mem hq.there h0
  have hx : s.opt i = some x := hx
  have hrn : NameP mm := hr.name
  have hrl : e = 1 ∨ z.up ≠ 0 := hr.live
  have hrf : (s.path e).length + 1 ≤ 20 := hr.far.2
  have hrt : lookE z.ents mm = t := hr.there
  have hdi := h.e.not_self hq1 hqk hqm
  have hmv : (x.kind = 2 → s.within e i = false) ∧ s.overF 21 i (sizeL (s.path e) + 1 + mm.length) ((s.path e).length + 1) = false ∧ (t ≠ 0 → ∀ v, s.opt t = some v → v.kind = 2 → v.ents = []) := by
    unfold Tr.mayMove at hm
    rw [Tr.at_of hx] at hm
    simp only at hm
    by_cases c1 : x.kind = 2 ∧ s.within e i = true
    · rw [if_pos c1] at hm; cases hm
    · rw [if_neg c1] at hm
      by_cases c2 : s.overF 21 i (sizeL (s.path e) + 1 + mm.length) ((s.path e).length + 1) = true
      · rw [if_pos c2] at hm; cases hm
      · rw [if_neg c2] at hm
        refine ⟨fun h2 => by cases c : s.within e i with | true => exact absurd ⟨h2, c⟩ c1 | false => rfl, by simpa using c2, fun ht v hv hv2 => ?_⟩
        rw [if_neg (fun c3 => c3.elim ht (fun c4 => hne c4.symm)), Tr.at_of hv] at hm
        by_cases c3 : x.kind = 2
        · rw [if_pos c3, if_neg (fun c4 => c4 hv2)] at hm
          by_cases c4 : v.ents.length ≠ 0
          · rw [if_pos c4] at hm; cases hm
          · exact List.length_eq_zero_iff.1 (Decidable.of_not_not c4)
        · rw [if_neg c3, if_pos hv2] at hm; cases hm
  obtain ⟨hwd, hov, hemp⟩ := hmv
  have hei : e ≠ i := fun c => by
    subst c
    rw [hx] at hr1
    obtain rfl := Option.some.inj hr1
    have := hwd hrk
    rw [Tr.within_end (.inl rfl), decide_eq_true rfl] at this
    cases this
  -- taken away
  have h1 := h.e.take hq1 hqk hx hqm
  have hop := Tr.opt_take hq1 hx hdi nm
  have hi1 : (s.take ⟨d, nm, i⟩).opt i = some x.unnamed := by rw [hop, if_pos rfl]
  obtain ⟨z1, hz1, hz1k, hz1u, hz1l⟩ : ∃ z1, (s.take ⟨d, nm, i⟩).opt e = some z1 ∧ z1.kind = 2 ∧ z1.up = z.up ∧ (∀ p, p ≠ nm ∨ e ≠ d → lookE z1.ents p = lookE z.ents p) ∧ (t = 0 → lookE z1.ents mm = 0) := by
    by_cases c : e = d
    · subst c
      rw [hq1] at hr1
      obtain rfl := Option.some.inj hr1
      refine ⟨{ y with ents := delE nm y.ents }, by rw [hop, if_neg hei, if_pos rfl], hqk, rfl, fun p hp => ?_, fun ht => ?_⟩
      · show lookE (delE nm y.ents) p = _
        rw [lookE_delE, if_neg (hp.resolve_right fun c => c rfl)]
      · show lookE (delE nm y.ents) mm = 0
        rw [lookE_delE, hrt, ht]; simp
    · exact ⟨z, by rw [hop, if_neg hei, if_neg c]; exact hr1, hrk, rfl, fun _ _ => rfl, fun ht => by rw [hrt, ht]⟩
  have hold1 : ∀ j v, (s.take ⟨d, nm, i⟩).opt j = some v → v.up ≠ 0 → j ≠ i ∧ ∃ v0, s.opt j = some v0 ∧ v0.up = v.up := fun j v hv hvu => by
    rw [hop] at hv
    by_cases c1 : j = i
    · rw [if_pos c1] at hv
      obtain rfl := Option.some.inj hv
      by_cases h2 : x.kind = 2
      · rw [unnamed_dir h2] at hvu; exact absurd rfl hvu
      · rw [unnamed_other h2] at hvu; exact absurd ((h.each i x hx).noent h2).2 hvu
    · rw [if_neg c1] at hv
      by_cases c2 : j = d
      · rw [if_pos c2] at hv
        obtain rfl := Option.some.inj hv
        exact ⟨c1, y, by rw [c2]; exact hq1, rfl⟩
      · rw [if_neg c2] at hv
        exact ⟨c1, v, hv, rfl⟩
  have hx1 : x.unnamed.kind = 2 → x.unnamed.up = 0 ∧ i ≠ 1 := fun h2 => by
    rw [unnamed_kind] at h2
    refine ⟨by rw [unnamed_dir h2], fun c => ?_⟩
    subst c
    obtain ⟨v, hv, hvu⟩ := h.ent d y hq1 _ hqm
    have hv' : s.opt 1 = some v := hv
    rw [hx] at hv'
    obtain rfl := Option.some.inj hv'
    have c3 := (hvu h2).1
    rw [(h.e.root_at hx).2] at c3
    exact h.pos hq1 c3.symm
  have hL : LoseAt b s d i y x := ⟨hq1, hqk, hx, h.each d y hq1, h.e.ent_pos hq1, (h.each i x hx).links, hdi, h.links_pos hq1 hx hqm⟩
  unfold Tr.shift
  simp only
  by_cases ht : t = 0
  · rw [if_neg (fun c => c ht)]
    refine ⟨?_, hL, fun c => absurd ht c, z1, x.unnamed, hz1, hz1k, hi1, h1.each e z1 hz1, h1.ent_pos hz1, (h1.each i _ hi1).links, hei, hz1l.2 ht⟩
    exact h.hang_moved h1 (fun j hj => hj.1.elim (fun h => h) hj.2) hz1 hz1k hi1 hei hrn (hz1l.2 ht) (hz1u ▸ hrl) hx1 hold1 (fun h2 => hwd (by rw [unnamed_kind] at h2; exact h2)) hov hrf
  · rw [if_pos ht]
    have hti : t ≠ i := fun c => hne c.symm
    have htm : (mm, t) ∈ z.ents := look_mem hrt ht
    obtain ⟨v, hv, hvu⟩ := h.ent e z hr1 _ htm
    have hv : s.opt t = some v := hv
    have het := h.e.not_self hr1 hrk htm
    -- what stands there, behind the first step
    obtain ⟨v1, hv1, hv1k, hv1e⟩ : ∃ v1, (s.take ⟨d, nm, i⟩).opt t = some v1 ∧ v1.kind = v.kind ∧ (v.ents = [] → v1.ents = []) := by
      by_cases c : t = d
      · subst c
        rw [hv] at hq1
        obtain rfl := Option.some.inj hq1
        exact ⟨{ v with ents := delE nm v.ents }, by rw [hop, if_neg hti, if_pos rfl], rfl, fun c => by show delE nm v.ents = []; rw [c]; rfl⟩
      · exact ⟨v, by rw [hop, if_neg hti, if_neg c]; exact hv, rfl, fun c => c⟩
    have hlk1 : lookE z1.ents mm = t := by
      rw [hz1l.1 mm ?_, hrt]
      by_cases c : e = d
      · refine .inl fun c2 => hti ?_
        subst c c2
        rw [hq1] at hr1
        obtain rfl := Option.some.inj hr1
        exact rise_one (h.each e y hq1).sorted htm hqm
      · exact .inr c
    have hm1 : (mm, t) ∈ z1.ents := look_mem hlk1 ht
    have h2 := h1.take hz1 hz1k hv1 hm1
    have hop2 := Tr.opt_take hz1 hv1 het mm
    have hv2 : ((s.take ⟨d, nm, i⟩).take ⟨e, mm, t⟩).opt t = some v1.unnamed := by rw [hop2, if_pos rfl]
    have hve : v1.kind = 2 → v1.ents = [] := fun c => hv1e (hemp ht v hv (hv1k ▸ c))
    have h3 := h2.leave hv2 (fun c _ => by rw [unnamed_kind] at c; rw [unnamed_ents]; exact hve c)
    have hopl : ∀ j, j ≠ t → (((s.take ⟨d, nm, i⟩).take ⟨e, mm, t⟩).leave t).opt j = ((s.take ⟨d, nm, i⟩).take ⟨e, mm, t⟩).opt j := fun j hj => by
      unfold Tr.leave
      split
      · rw [Tr.opt_del, if_neg hj]
      · rfl
    have hle : ∀ j w, (((s.take ⟨d, nm, i⟩).take ⟨e, mm, t⟩).leave t).opt j = some w → ((s.take ⟨d, nm, i⟩).take ⟨e, mm, t⟩).opt j = some w := fun j w hw => by
      unfold Tr.leave at hw
      split at hw
      · rw [Tr.opt_del] at hw
        split at hw
        · cases hw
        · exact hw
      · exact hw
    have hi3 : (((s.take ⟨d, nm, i⟩).take ⟨e, mm, t⟩).leave t).opt i = some x.unnamed := by rw [hopl i (Ne.symm hti), hop2, if_neg (Ne.symm hti), if_neg (Ne.symm hei)]; exact hi1
    have he3 : (((s.take ⟨d, nm, i⟩).take ⟨e, mm, t⟩).leave t).opt e = some { z1 with ents := delE mm z1.ents } := by rw [hopl e het, hop2, if_neg het, if_pos rfl]
    have hold3 : ∀ j w, (((s.take ⟨d, nm, i⟩).take ⟨e, mm, t⟩).leave t).opt j = some w → w.up ≠ 0 → j ≠ i ∧ ∃ w0, s.opt j = some w0 ∧ w0.up = w.up := fun j w hw hwu => by
      have hw2 := hle j w hw
      rw [hop2] at hw2
      by_cases c1 : j = t
      · rw [if_pos c1] at hw2
        obtain rfl := Option.some.inj hw2
        by_cases c2 : v1.kind = 2
        · rw [unnamed_dir c2] at hwu; exact absurd rfl hwu
        · rw [unnamed_other c2] at hwu
          exact absurd ((h1.each t v1 hv1).noent c2).2 hwu
      · rw [if_neg c1] at hw2
        by_cases c2 : j = e
        · rw [if_pos c2] at hw2
          obtain rfl := Option.some.inj hw2
          obtain ⟨q1, w0, q2, q3⟩ := hold1 e z1 hz1 hwu
          exact ⟨by rw [c2]; exact q1, w0, by rw [c2]; exact q2, q3⟩
        · rw [if_neg c2] at hw2
          exact hold1 j w hw2 hwu
    refine ⟨?_, hL, fun _ => ⟨z1, v1, hz1, hz1k, hv1, h1.each e z1 hz1, h1.ent_pos hz1, (h1.each t v1 hv1).links, het, h1.links_pos hz1 hv1 hm1⟩, _, _, he3, hz1k, hi3, h3.each e _ he3, h3.ent_pos he3, (h3.each i _ hi3).links, hei, by rw [lookE_delE, if_pos rfl]⟩
    refine h.hang_moved h3 (fun j hj => ?_) he3 hz1k hi3 hei hrn (by rw [lookE_delE, if_pos rfl]) (by show e = 1 ∨ z1.up ≠ 0; rw [hz1u]; exact hrl) hx1 hold3 (fun h2 => hwd (by rw [unnamed_kind] at h2; exact h2)) hov hrf
    obtain ⟨⟨c1, c2⟩, c3⟩ := hj
    rcases c1 with c1 | c1
    · exact c1.elim (fun h => h) c3
    · exact c2 c1
theorem Ok.shift (h : Ok b s) {q r : Spot} {y z x : Nd} (hq : SpotAt b s q y) (hr : SpotAt b s r z) (h0 : q.there ≠ 0) (hx : s.opt q.there = some x) (hne : q.there ≠ r.there) (hm : s.mayMove q.there r = 0) : Ok (b + 1) (s.shift q r) :=
  (h.shift_both hq hr h0 hx hne hm).1
theorem Ok.do_rename (h : Ok b s) {p q : List Nat} (hp : Octs p) (hq : Octs q) : Ok (b + 1) (s.rename p q).2 := by
  have h' := h.mono (Nat.le_succ b)
  unfold Tr.rename
  split
  · exact h'
  · split
    · exact h'
    · by_cases e1 : s.taken p ≠ 0
      · rw [if_pos e1]; exact h'
      · rw [if_neg e1]
        by_cases e2 : (s.place q).1 ≠ 0
        · rw [if_pos e2]; exact h'
        · rw [if_neg e2]
          by_cases e3 : s.mayMove (s.place p).2.there (s.place q).2 ≠ 0
          · rw [if_pos e3]; exact h'
          · rw [if_neg e3]
            by_cases e4 : (s.place p).2.there = (s.place q).2.there
            · rw [if_pos e4]; exact h'
            · rw [if_neg e4]
              obtain ⟨h1, h2⟩ := taken_bad (Decidable.of_not_not e1)
              obtain ⟨y, hy⟩ := h.spot_at hp h1
              obtain ⟨z, hz⟩ := h.spot_at hq (Decidable.of_not_not e2)
              obtain ⟨x, hx⟩ := h.spot_there hp h1 h2
              exact h.shift hy hz h2 hx e4 (Decidable.of_not_not e3)
/-- every operation leaves a tree that may be -/
theorem Ok.do (h : Ok b s) (o : Opt) (hp : Octs o.path) (ht : Octs o.to) (hdl : ∀ i x, s.opt i = some x → x.data.length ≤ 20736) : Ok (b + 2) (s.do o).2 := by
  have h' := h.mono (Nat.le_add_right b 2)
  have up0 : ∀ {u}, Ok b u → Ok (b + 2) u := fun h => h.mono (Nat.le_add_right b 2)
  have up1 : ∀ {u}, Ok (b + 1) u → Ok (b + 2) u := fun h => h.mono (Nat.le_succ (b + 1))
  unfold Tr.do
  have hra : (s.readAt o.fd o.off o.n).2 = s := by unfold Tr.readAt; (repeat' split) <;> rfl
  refine ite_to (P := fun r : Ans × Tr => Ok (b + 2) r.2) (h.do_open hp _) ?_
  refine ite_to (P := fun r : Ans × Tr => Ok (b + 2) r.2) (up0 (h.do_close _)) ?_
  refine ite_to (P := fun r : Ans × Tr => Ok (b + 2) r.2) (up0 (h.do_read hdl _ _)) ?_
  refine ite_to (P := fun r : Ans × Tr => Ok (b + 2) r.2) (up0 (h.do_write _ _)) ?_
  refine ite_to (P := fun r : Ans × Tr => Ok (b + 2) r.2) (by rw [hra]; exact h') ?_
  refine ite_to (P := fun r : Ans × Tr => Ok (b + 2) r.2) (up0 (h.do_writeAt _ _ _)) ?_
  refine ite_to (P := fun r : Ans × Tr => Ok (b + 2) r.2) (up0 (h.do_seek _ _ _)) ?_
  refine ite_to (P := fun r : Ans × Tr => Ok (b + 2) r.2) (up0 (h.do_trunc _ _)) ?_
  refine ite_to (P := fun r : Ans × Tr => Ok (b + 2) r.2) (h.do_mkdir hp) ?_
  refine ite_to (P := fun r : Ans × Tr => Ok (b + 2) r.2) (up0 (h.do_rmdir hp)) ?_
  refine ite_to (P := fun r : Ans × Tr => Ok (b + 2) r.2) (up0 (h.do_unlink hp)) ?_
  refine ite_to (P := fun r : Ans × Tr => Ok (b + 2) r.2) (up1 (h.do_link _ ht)) ?_
  refine ite_to (P := fun r : Ans × Tr => Ok (b + 2) r.2) (h.do_symlink _ ht) ?_
  refine ite_to (P := fun r : Ans × Tr => Ok (b + 2) r.2) h' ?_
  refine ite_to (P := fun r : Ans × Tr => Ok (b + 2) r.2) (up1 (h.do_rename hp ht)) ?_
  refine ite_to (P := fun r : Ans × Tr => Ok (b + 2) r.2) h' ?_
  refine ite_to (P := fun r : Ans × Tr => Ok (b + 2) r.2) h' ?_
  refine ite_to (P := fun r : Ans × Tr => Ok (b + 2) r.2) h' ?_
  refine ite_to (P := fun r : Ans × Tr => Ok (b + 2) r.2) h' ?_
  refine ite_to (P := fun r : Ans × Tr => Ok (b + 2) r.2) h' ?_
  exact ite_to (P := fun r : Ans × Tr => Ok (b + 2) r.2) h' h'
end
end Go.Proofs.YtgcodlicbdaddaaGreatDoor
end

section
set_option linter.unusedVariables false
set_option linter.unusedSimpArgs false
namespace Go.Proofs.YtgcodlicbdaddaaGreatDoor
open Go.RowKit BigFrame
set_option maxRecDepth 100000

section
variable {w : World} {B b : Nat} {A : Ad} {s : Tr}
/-- may a directory stand in its place? -/
def replC (t : Nd) : Int := if t.kind ≠ 2 then 7 else if t.ents.length ≠ 0 then 9 else 0
theorem replace_any (h : TreeAt w B A s) {i : Nat} {x : Nd} (hi : s.opt i = some x) :
    Calls Tryz.prog 181 #[.pointer (some ⟨A.nd i, 0, none⟩)] w fun e w' => e = .returned (.int .i64 (replC x)) ∧ w = w' := by
  have hN := Lib.hid (h.node i x hi)
  have ck := hN.out.kind
  clear h
  by_cases hk : x.kind = 2
  · have t0 : (((x.kind : Nat) : Int) != 2) = false := by rw [hk]; rfl
    obtain ⟨n, hn⟩ : ∃ n, x.ents.length = n := ⟨_, rfl⟩
    have hs := Lib.hid (show x.size = n by unfold Nd.size; rw [if_pos hk, hn])
    by_cases h0 : n = 0
    · have hr := Lib.hid (show replC x = 0 by unfold replC; rw [if_neg (fun c => c hk), hn, if_neg (fun c => c h0)])
      subst h0
      clear hk hn
      go_enter Tryz.func181, Tryz.ntmps181
      go_wp2_with (go_at_call 139; refine (size_any _ hN.out).mono ?_; rw [hs.out]; rintro e w1 ⟨rfl, rfl⟩)
      go_ret
      rw [hr.out]
      exact ⟨rfl, rfl⟩
    · have hr := Lib.hid (show replC x = 9 by unfold replC; rw [if_neg (fun c => c hk), hn, if_pos h0])
      have t1 : (((n : Nat) : Int) != 0) = true := by rw [bne_iff_ne]; omega
      clear hk hn
      go_enter Tryz.func181, Tryz.ntmps181
      go_wp2_with (go_at_call 139; refine (size_any _ hN.out).mono ?_; rw [hs.out]; rintro e w1 ⟨rfl, rfl⟩)
      go_ret
      rw [hr.out]
      exact ⟨rfl, rfl⟩
  · have t0 : (((x.kind : Nat) : Int) != 2) = true := by rw [bne_iff_ne]; omega
    have hr := Lib.hid (show replC x = 7 by unfold replC; rw [if_pos hk])
    clear hk
    go_enter Tryz.func181, Tryz.ntmps181
    go_wp2_with fail
    go_ret
    rw [hr.out]
    exact ⟨rfl, rfl⟩
/-- a place, boxed, as the world goes on -/
structure BoxQ (w0 w : World) (B : Nat) (A : Ad) (s : Tr) (g : Nat) (l : List Value) : Prop where
  box : Vw w 171 g l
  tree : TreeAt w B A s
  below : Below w0.heap.size w0 w
theorem BoxQ.on {w0 w w' : World} {g : Nat} {l : List Value} (h : BoxQ w0 w B A s g l) (hb : Below w.heap.size w w') : BoxQ w0 w' B A s g l :=
  ⟨h.box.on' hb, h.tree.below hb, h.below.trans (hb.mono h.below.size)⟩
theorem BoxQ.drew {w0 w : World} {g : Nat} {l : List Value} (h : BoxQ w0 w B A s g l) : BoxQ w0 w.drew B A s g l := ⟨h.box.drew1, h.tree.drew, h.below.drew⟩

set_option maxHeartbeats 2000000 in
theorem mayMove_any (h : TreeAt w B A s) (ho : Ok b s) (hb : b ≤ 900000) {i : Nat} {x : Nd} (hi : s.opt i = some x) {q : Spot} {y : Nd} (hqd : s.opt q.dir = some y) (hqn : NameP q.nm) (hqt : q.there = 0 ∨ ∃ z, s.opt q.there = some z) :
    Calls Tryz.prog 146 #[.pointer (some ⟨A.t, 0, none⟩), .pointer (some ⟨A.nd i, 0, none⟩), .agg #[.pointer (some ⟨A.nd q.dir, 0, none⟩), .string (strOf q.nm), ptrO A s q.there]] w (Tells (.int .i64 (s.mayMove i q)) w) := by
  obtain ⟨d, nm, t⟩ := q
  simp only at hqd hqn hqt
  have hi' := Lib.hid hi
  have hnl := Lib.hid hqn.long
  obtain ⟨wv, hwv⟩ : ∃ v, s.within d i = v := ⟨_, rfl⟩
  obtain ⟨pa, hpa⟩ : ∃ v, s.path d = v := ⟨_, rfl⟩
  obtain ⟨ov, hov⟩ : ∃ v, s.overF 21 i (sizeL pa + 1 + nm.length) (pa.length + 1) = v := ⟨_, rfl⟩
  have hps := Lib.hid (show sizeL pa ≤ 525 by rw [← hpa]; exact ho.path_size d)
  have hpl := Lib.hid (show pa.length ≤ 20 by
    rw [← hpa]
    by_cases hu : y.up = 0
    · rw [Tr.path_root (by rw [Tr.at_of hqd]; exact hu)]; exact Nat.zero_le _
    · exact (ho.path_deep hqd hu).2)
  have hwi := Lib.hid (show ∀ w', TreeAt w' B A s → Calls Tryz.prog 179 #[.pointer (some ⟨A.t, 0, none⟩), .pointer (some ⟨A.nd d, 0, none⟩), .pointer (some ⟨A.nd i, 0, none⟩)] w' (Tells (.bool wv) w') from fun w' hw' => by
    have := within_any hw' ho (by omega) d i y x hqd hi
    rwa [hwv] at this)
  have hre := Lib.hid (show ∀ w', TreeAt w' B A s → Calls Tryz.prog 176 #[.pointer (some ⟨A.t, 0, none⟩), .pointer (some ⟨A.nd d, 0, none⟩)] w' (Tells (.agg #[.int .i64 ((sizeL pa : Nat) : Int), .int .i64 ((pa.length : Nat) : Int)]) w') from fun w' hw' => by
    have := reach_any hw' ho (by omega) d y hqd
    rwa [hpa] at this)
  have hwt := Lib.hid (fun w' => with_any (sizeL pa) pa.length nm w' (by have := hps.out; omega) (by have := hpl.out; omega) (by have := hnl.out; omega))
  have hol := Lib.hid (show ∀ w', TreeAt w' B A s → Calls Tryz.prog 180 #[.pointer (some ⟨A.t, 0, none⟩), .pointer (some ⟨A.nd i, 0, none⟩), .agg #[.int .i64 ((sizeL pa + 1 + nm.length : Nat) : Int), .int .i64 ((pa.length + 1 : Nat) : Int)]] w' (Tells (.bool ov) w') from fun w' hw' => by
    have := overlong_any w' hw' ho (by omega) i x hi (sizeL pa + 1 + nm.length) (pa.length + 1) (by have := hpl.out; omega) (by have := hps.out; have := hnl.out; omega)
    rwa [hov] at this)
  have hul : s.mayMove i ⟨d, nm, t⟩ = if x.kind = 2 ∧ wv = true then 2 else if ov = true then 11 else if t = 0 ∨ t = i then 0 else if x.kind = 2 then replC (s.at t) else if (s.at t).kind = 2 then 8 else 0 := by
    unfold Tr.mayMove replC
    simp only [Tr.at_of hi, hwv, hpa, hov]
  obtain ⟨pt, hpt⟩ : ∃ v, ptrO A s t = v := ⟨_, rfl⟩
  rw [hpt]
  obtain ⟨w0, hw0⟩ : ∃ w0, w.alloc (.cells #[.pointer (some ⟨A.nd d, 0, none⟩), .string (strOf nm), pt] 171) = w0 := ⟨_, rfl⟩
  have hB0 : Below w.heap.size w w0 := by rw [← hw0]; exact (Below.refl w.heap.size w).alloc (Nat.le_refl _) _
  have Q0 := Lib.hid (show BoxQ w w0 B A s w.heap.size [.pointer (some ⟨A.nd d, 0, none⟩), .string (strOf nm), pt] from ⟨by rw [← hw0]; exact Vw.alloc _ _ _, h.below hB0, hB0⟩)
  have k0 := Q0.out.box.cell (k := 0) rfl
  have k1 := Q0.out.box.cell (k := 1) rfl
  have k2 := Q0.out.box.cell (k := 2) rfl
  have ck := (Q0.out.tree.node i x hi).kind
  clear hwv hov hB0 h
  by_cases hk : x.kind = 2
  · have t0 : (((x.kind : Nat) : Int) == 2) = true := by rw [hk]; rfl
    simp only [hk, true_and, if_true] at hul
    clear hk
    cases wv with
    | true =>
      rw [if_pos rfl] at hul
      have hul' := Lib.hid hul
      clear hul
      go_enter Tryz.func146, Tryz.ntmps146
      go_wp2_with (go_at_call 179; refine (hwi.out _ Q0.out.tree).mono ?_; rintro e w1 ⟨rfl, hb1⟩; have Q1 := Lib.hid (Q0.out.on hb1); have k0 := Q1.out.box.cell (k := 0) rfl; have k1 := Q1.out.box.cell (k := 1) rfl; have k2 := Q1.out.box.cell (k := 2) rfl; have ck := (Q1.out.tree.node i x hi'.out).kind; clear hb1)
      go_ret
      rw [hul'.out]
      exact ⟨rfl, Q1.out.below⟩
    | false =>
      rw [if_neg (by decide)] at hul
      go_enter Tryz.func146, Tryz.ntmps146
      go_upto_region 3 with (go_at_call 179; refine (hwi.out _ Q0.out.tree).mono ?_; rintro e w1 ⟨rfl, hb1⟩; have Q1 := Lib.hid (Q0.out.on hb1); have k0 := Q1.out.box.cell (k := 0) rfl; have k1 := Q1.out.box.cell (k := 1) rfl; have k2 := Q1.out.box.cell (k := 2) rfl; have ck := (Q1.out.tree.node i x hi'.out).kind; clear hb1)
      go_region_with (first
        | (go_at_call 176; refine (hre.out _ Q1.out.drew.tree).mono ?_; rintro e w2 ⟨rfl, hb2⟩; have Q2 := Lib.hid (Q1.out.drew.on hb2); have k0 := Q2.out.box.cell (k := 0) rfl; have k1 := Q2.out.box.cell (k := 1) rfl; have k2 := Q2.out.box.cell (k := 2) rfl; clear hb2)
        | (go_at_call 177; refine (hwt.out _).mono ?_; rintro e w3 ⟨rfl, hb3⟩; have Q3 := Lib.hid (Q2.out.on hb3); have k0 := Q3.out.box.cell (k := 0) rfl; have k1 := Q3.out.box.cell (k := 1) rfl; have k2 := Q3.out.box.cell (k := 2) rfl; clear hb3)
        | (go_at_call 180; refine (hol.out _ Q3.out.tree).mono ?_; rintro e w4 ⟨rfl, hb4⟩; have Q4 := Lib.hid (Q3.out.on hb4); have k0 := Q4.out.box.cell (k := 0) rfl; have k1 := Q4.out.box.cell (k := 1) rfl; have k2 := Q4.out.box.cell (k := 2) rfl; have ck := (Q4.out.tree.node i x hi'.out).kind; clear hb4))
      all_goals (
        cases ov with
        | true =>
          rw [if_pos rfl] at hul
          have hul' := Lib.hid hul
          clear hul
          go_wp2_with fail
          go_ret
          rw [hul'.out]
          exact ⟨rfl, Q4.out.below⟩
        | false =>
          rw [if_neg (by decide)] at hul
          by_cases ht : t = 0
          · rw [if_pos (.inl ht)] at hul
            have hul' := Lib.hid hul
            have hpn : pt = .pointer none := by rw [← hpt, ht]; unfold ptrO; rw [ho.zero]; rfl
            subst hpn
            clear hul hpt ht
            go_wp2_with fail
            go_ret
            rw [hul'.out]
            exact ⟨rfl, Q4.out.below⟩
          · obtain ⟨z, hz⟩ := hqt.resolve_left ht
            have hpn : pt = .pointer (some ⟨A.nd t, 0, none⟩) := by rw [← hpt]; unfold ptrO; rw [hz]; rfl
            subst hpn
            have q1 := eql_ptr Q4.out.tree hz hi'.out
            by_cases hti : t = i
            · rw [if_pos (.inr hti)] at hul
              have hul' := Lib.hid hul
              rw [decide_eq_true hti] at q1
              clear hul hpt ht hti
              go_wp2_with fail
              go_ret
              rw [hul'.out]
              exact ⟨rfl, Q4.out.below⟩
            · rw [if_neg (fun c => c.elim ht hti), Tr.at_of hz] at hul
              rw [decide_eq_false hti] at q1
              have hz' := Lib.hid hz
              have hul' := Lib.hid hul
              clear hul hpt ht hti hz
              go_wp2_with (go_at_call 181; refine (replace_any Q4.out.tree hz'.out).mono ?_; rintro e w5 ⟨rfl, rfl⟩)
              go_ret
              rw [hul'.out]
              exact ⟨rfl, Q4.out.below⟩)
  · have t0 : (((x.kind : Nat) : Int) == 2) = false := nat_beq_ne (b := 2) hk
    rw [if_neg (fun c => hk c.1)] at hul
    simp only [hk, if_false] at hul
    clear hk
    go_enter Tryz.func146, Tryz.ntmps146
    go_upto_region 3 with fail
    go_region_with (first
      | (go_at_call 176; refine (hre.out _ Q0.out.drew.tree).mono ?_; rintro e w2 ⟨rfl, hb2⟩; have Q2 := Lib.hid (Q0.out.drew.on hb2); have k0 := Q2.out.box.cell (k := 0) rfl; have k1 := Q2.out.box.cell (k := 1) rfl; have k2 := Q2.out.box.cell (k := 2) rfl; clear hb2)
      | (go_at_call 177; refine (hwt.out _).mono ?_; rintro e w3 ⟨rfl, hb3⟩; have Q3 := Lib.hid (Q2.out.on hb3); have k0 := Q3.out.box.cell (k := 0) rfl; have k1 := Q3.out.box.cell (k := 1) rfl; have k2 := Q3.out.box.cell (k := 2) rfl; clear hb3)
      | (go_at_call 180; refine (hol.out _ Q3.out.tree).mono ?_; rintro e w4 ⟨rfl, hb4⟩; have Q4 := Lib.hid (Q3.out.on hb4); have k0 := Q4.out.box.cell (k := 0) rfl; have k1 := Q4.out.box.cell (k := 1) rfl; have k2 := Q4.out.box.cell (k := 2) rfl; have ck := (Q4.out.tree.node i x hi'.out).kind; clear hb4))
    all_goals (
      cases ov with
      | true =>
        rw [if_pos rfl] at hul
        have hul' := Lib.hid hul
        clear hul
        go_wp2_with fail
        go_ret
        rw [hul'.out]
        exact ⟨rfl, Q4.out.below⟩
      | false =>
        rw [if_neg (by decide)] at hul
        by_cases ht : t = 0
        · rw [if_pos (.inl ht)] at hul
          have hul' := Lib.hid hul
          have hpn : pt = .pointer none := by rw [← hpt, ht]; unfold ptrO; rw [ho.zero]; rfl
          subst hpn
          clear hul hpt ht
          go_wp2_with fail
          go_ret
          rw [hul'.out]
          exact ⟨rfl, Q4.out.below⟩
        · obtain ⟨z, hz⟩ := hqt.resolve_left ht
          have hpn : pt = .pointer (some ⟨A.nd t, 0, none⟩) := by rw [← hpt]; unfold ptrO; rw [hz]; rfl
          subst hpn
          have q1 := eql_ptr Q4.out.tree hz hi'.out
          by_cases hti : t = i
          · rw [if_pos (.inr hti)] at hul
            have hul' := Lib.hid hul
            rw [decide_eq_true hti] at q1
            clear hul hpt ht hti
            go_wp2_with fail
            go_ret
            rw [hul'.out]
            exact ⟨rfl, Q4.out.below⟩
          · rw [if_neg (fun c => c.elim ht hti), Tr.at_of hz] at hul
            rw [decide_eq_false hti] at q1
            have hz' := Lib.hid hz
            have cz := (Q4.out.tree.node t z hz'.out).kind
            by_cases hzk : z.kind = 2
            · rw [if_pos hzk] at hul
              have hul' := Lib.hid hul
              have t2 : (((z.kind : Nat) : Int) == 2) = true := by rw [hzk]; rfl
              clear hul hpt ht hti hz hzk
              go_wp2_with fail
              go_ret
              rw [hul'.out]
              exact ⟨rfl, Q4.out.below⟩
            · rw [if_neg hzk] at hul
              have hul' := Lib.hid hul
              have t2 : (((z.kind : Nat) : Int) == 2) = false := nat_beq_ne (b := 2) hzk
              clear hul hpt ht hti hz hzk
              go_wp2_with fail
              go_ret
              rw [hul'.out]
              exact ⟨rfl, Q4.out.below⟩)
end
end Go.Proofs.YtgcodlicbdaddaaGreatDoor
end
