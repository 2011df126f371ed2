/-
  Every operation leaves a tree that may be.
-/
import Derived.Test.YtgcodlicbdaddaaGreatDoorB30

section
set_option linter.unusedVariables false
set_option linter.unusedSimpArgs false
namespace Go.Proofs.YtgcodlicbdaddaaGreatDoor

section
variable {b : Nat} {s : Tr}
theorem Ok.pos (h : Ok b s) {i : Nat} {x : Nd} (hx : s.opt i = some x) : i ≠ 0 := h.e.pos hx
/-- a directory without a name is empty -/
theorem Ok.lost_empty (h : Ok b s) {i : Nat} {x : Nd} (hx : s.opt i = some x) (hl : x.links = 0) : x.ents = [] := by
  by_cases hk : x.kind = 2
  · by_cases h1 : i = 1
    · subst h1
      have := h.e.root_links hx
      omega
    · by_cases hu : x.up = 0
      · exact (h.lost i x hx hk h1 hu).1
      · obtain ⟨y, hy, _, hm⟩ := h.up i x hx hu
        have := h.links_pos hy hx hm
        omega
  · exact ((h.each i x hx).noent hk).1
theorem Ok.lose (h : Ok b s) {q : Spot} {y x : Nd} (hq : SpotAt b s q y) (h0 : q.there ≠ 0) (hx : s.opt q.there = some x) (he : x.kind = 2 → x.ents = []) : Ok b (s.lose q) := by
  obtain ⟨d, nm, t⟩ := q
  have hm := look_mem (p := nm) (j := t) hq.there h0
  have h1 := h.e.take hq.dir hq.kind hx hm
  have h2 := h1.leave (i := t) (x := x.unnamed) (Tr.take_opt hq.dir hx (h.e.not_self hq.dir hq.kind hm) nm) (fun h3 _ => by rw [unnamed_kind] at h3; rw [unnamed_ents]; exact he h3)
  exact h2.ok fun i hi => hi.1.elim (fun h => h) hi.2
/-- a node that is no directory hung -/
theorem Ok.hang_file (h : Ok b s) {q : Spot} {y x : Nd} {i : Nat} (hq : SpotAt b s q y) (h0 : q.there = 0) (hx : s.opt i = some x) (hk : x.kind ≠ 2) : Ok (b + 1) (s.hang q i) := by
  obtain ⟨d, nm, t⟩ := q
  have hdi : d ≠ i := fun e => by
    have h1 := hq.dir
    simp only at h1
    rw [e, hx] at h1
    exact hk (by rw [Option.some.inj h1]; exact hq.kind)
  refine (h.e.hang t hq.dir hq.kind hx hdi hq.name (hq.there.trans h0) hq.live (fun h2 => absurd h2 hk) ?_).ok fun i hi => hi.1
  obtain ⟨f, hf⟩ := h.dep
  refine ⟨f, fun j z hz hu => ?_⟩
  rw [Tr.opt_hang hq.dir hx hdi] at hz
  by_cases e1 : j = i
  · rw [if_pos e1] at hz
    obtain rfl := Option.some.inj hz
    rw [named_other hk] at hu
    exact absurd ((h.each i x hx).noent hk).2 hu
  · rw [if_neg e1] at hz
    by_cases e2 : j = d
    · rw [if_pos e2] at hz
      obtain rfl := Option.some.inj hz
      rw [e2]
      exact hf d y hq.dir hu
    · rw [if_neg e2] at hz
      exact hf j z hz hu
/-- a new node hung -/
theorem Ok.fresh (h : Ok b s) {q : Spot} {y x : Nd} (hq : SpotAt b s q y) (h0 : q.there = 0) (hx : NodeOk b x) (h1 : x.links = 0) (h2 : x.ents = []) (h3 : x.up = 0) : Ok (b + 2) (s.fresh q x) := by
  obtain ⟨d, nm, t⟩ := q
  have hlt := Tr.opt_lt hq.dir
  simp only at hlt
  have hdn : d ≠ s.nd.length := by omega
  have hd : (s.make x).opt d = some y := by rw [Tr.opt_make, if_neg hdn]; exact hq.dir
  have hi : (s.make x).opt s.nd.length = some x := by rw [Tr.opt_make, if_pos rfl]
  have hl2 := h.len
  have hk := h.e.make hx h1 h2 h3
  have hr := hk.hang t hd hq.kind hi hdn hq.name (hq.there.trans h0) hq.live (fun _ => ⟨h3, by omega⟩) ?_
  · exact hr.ok fun i hi => hi.1.elim (fun h => h) hi.2
  · refine ⟨fun j => if j = s.nd.length then (s.path d).length + 1 else (s.path j).length, fun j z hz hu => ?_⟩
    rw [Tr.opt_hang hd hi hdn] at hz
    have hold : ∀ k v, s.opt k = some v → v.up ≠ 0 → (if k = s.nd.length then (s.path d).length + 1 else (s.path k).length) = (if v.up = s.nd.length then (s.path d).length + 1 else (s.path v.up).length) + 1 ∧ (if k = s.nd.length then (s.path d).length + 1 else (s.path k).length) ≤ 20 := fun k v hv hvu => by
      have hk1 := Tr.opt_lt hv
      obtain ⟨u, hu1, _⟩ := h.up k v hv hvu
      have hk2 := Tr.opt_lt hu1
      rw [if_neg (by omega), if_neg (by omega)]
      exact h.path_deep hv hvu
    by_cases e1 : j = s.nd.length
    · rw [if_pos e1] at hz
      obtain rfl := Option.some.inj hz
      by_cases hk2 : x.kind = 2
      · rw [named_dir hk2]
        simp only
        rw [if_pos e1, if_neg hdn]
        exact ⟨rfl, hq.far.2⟩
      · rw [named_other hk2] at hu
        exact absurd h3 hu
    · rw [if_neg e1] at hz
      by_cases e2 : j = d
      · rw [if_pos e2] at hz
        obtain rfl := Option.some.inj hz
        rw [e2]
        exact hold d y hq.dir hu
      · rw [if_neg e2, Tr.opt_make, if_neg e1] at hz
        exact hold j z hz hu

/-! ### Places -/
theorem least_open {L : List Plc} (h : openC L 16 ≠ 16) : leastF L < 16 := by
  have hl := leastF_is L
  refine Decidable.of_not_not fun hn => h ?_
  have key : ∀ k, k ≤ 16 → openC L k = k := fun k => by
    induction k with
    | zero => intro _; rfl
    | succ k ih =>
      intro hk
      have := ih (by omega)
      unfold openC at this ⊢
      rw [openN_yes (hl.on k (by omega)), List.length_append, List.length_singleton, this]
  exact key 16 (Nat.le_refl _)
theorem Ok.set_open (h : Ok b s) {k : Nat} (hk : LeastP s.tb k) (hk16 : k < 16) {i : Nat} {x : Nd} (hx : s.opt i = some x) (h3 : x.kind ≠ 3) {f : Int} (hf0 : 0 ≤ f) (hf1 : f ≤ 63) (hw : bitF f 32 = true → x.kind = 1) : Ok b { s with tb := openL s.tb k ((i : Nat) : Int) f } := by
  have hlen := h.tabs.1
  have hpl : ∀ j, pl (openL s.tb k ((i : Nat) : Int) f) j = if j = k then ⟨true, ((i : Nat) : Int), 0, f⟩ else pl s.tb j := fun j => pl_set (by omega)
  refine (h.e.set_tab (E' := fun _ => False) (by unfold openL; rw [List.length_set]; exact hlen) (fun _ h => h) (fun j z hz hl hh => ?_) (fun j hj hjo => ?_)).ok fun _ h => h
  · obtain ⟨m, hm, m1, m2⟩ := held_some hh
    have hmk : m ≠ k := fun e => by rw [e, hk.free hk16] at m1; cases m1
    exact .inr (held_yes hm (by rw [hpl, if_neg hmk]; exact m1) (by rw [hpl, if_neg hmk, m2]; simp))
  · rw [hpl] at hjo ⊢
    by_cases e : j = k
    · rw [if_pos e]
      exact ⟨i, x, rfl, hx, h3, hf0, hf1, Int.le_refl 0, (by decide : (0 : Int) ≤ 1099511627776), hw⟩
    · rw [if_neg e] at hjo ⊢
      exact h.tabs.2 j hj hjo
theorem resize_same (x : Nd) (n : Nat) : (x.resize n).kind = x.kind ∧ (x.resize n).links = x.links ∧ (x.resize n).ents = x.ents ∧ (x.resize n).most = x.most ∧ (x.resize n).up = x.up ∧ (x.resize n).nm = x.nm := by
  unfold Nd.resize
  split <;> exact ⟨rfl, rfl, rfl, rfl, rfl, rfl⟩
theorem grow_same (x : Nd) (n : Nat) : (x.grow n).kind = x.kind ∧ (x.grow n).links = x.links ∧ (x.grow n).ents = x.ents ∧ (x.grow n).most = x.most ∧ (x.grow n).up = x.up ∧ (x.grow n).nm = x.nm := by
  unfold Nd.grow
  split
  · exact resize_same x n
  · exact ⟨rfl, rfl, rfl, rfl, rfl, rfl⟩
theorem write_same (x : Nd) (o : Nat) (l : List Nat) : (x.write o l).kind = x.kind ∧ (x.write o l).links = x.links ∧ (x.write o l).ents = x.ents ∧ (x.write o l).most = x.most ∧ (x.write o l).up = x.up ∧ (x.write o l).nm = x.nm := grow_same x _
theorem Ok.resize (h : Ok b s) {i : Nat} {x : Nd} (hx : s.opt i = some x) (hk : x.kind = 1) (n : Nat) : Ok b (s.put i (x.resize n)) := by
  obtain ⟨h1, h2, h3, h4, h5, h6⟩ := resize_same x n
  exact h.put_file hx hk h1 h2 h3 h4 h5 h6
theorem Ok.cut0 (h : Ok b s) {i : Nat} {x : Nd} (hx : s.opt i = some x) {f : Int} (hk : bitF f 4 = true → x.kind = 1) : Ok b (s.cut0 i f) ∧ (∃ x', (s.cut0 i f).opt i = some x' ∧ x'.kind = x.kind) ∧ (s.cut0 i f).tb = s.tb := by
  unfold Tr.cut0
  by_cases e : bitF f 4 = true
  · rw [if_pos e, Tr.at_of hx]
    exact ⟨h.resize hx (hk e) 0, ⟨_, Tr.opt_put_same hx, (resize_same x 0).1⟩, rfl⟩
  · rw [if_neg e]
    exact ⟨h, ⟨x, hx, rfl⟩, rfl⟩
theorem nodeOk_new (b k : Nat) (hk : k = 1 ∨ k = 2) : NodeOk b (ndNew k) := by
  refine ⟨?_, fun _ => ⟨rfl, rfl⟩, fun h3 => ?_, fun _ => rfl, List.Pairwise.nil, fun e he => (by cases he), Nat.zero_le _, Nat.zero_le _, Nat.zero_le _, .nil, Nat.zero_le _⟩
  · show k = 1 ∨ k = 2 ∨ k = 3
    omega
  · have : k = 3 := h3
    omega

/-! ### The operations -/
theorem Ok.do_open (h : Ok b s) {p : List Nat} (hp : Octs p) (f : Int) : Ok (b + 2) (s.open p f).2 := by
  have h' := h.mono (Nat.le_add_right b 2)
  unfold Tr.open
  by_cases e1 : mayOpen f = false
  · rw [if_pos e1]; exact h'
  · rw [if_neg e1]
    by_cases e2 : (s.toOpen p f).1 ≠ 0
    · rw [if_pos e2]; exact h'
    · rw [if_neg e2]
      by_cases e3 : (s.toOpen p f).2.1 ≠ 0 ∧ (s.at (s.toOpen p f).2.1).kind = 2 ∧ bitF f 32 = true
      · rw [if_pos e3]; exact h'
      · rw [if_neg e3]
        by_cases e4 : openC s.tb 16 = 16
        · rw [if_pos e4]; exact h'
        · rw [if_neg e4]
          have hle := least_open e4
          have hmo : 0 ≤ f ∧ f ≤ 63 ∧ (bitF f 4 = true → bitF f 32 = true) := by
            have h1 : mayOpen f = true := by simpa using e1
            unfold mayOpen at h1
            simp only [Bool.and_eq_true, decide_eq_true_eq, Bool.or_eq_true, Bool.not_eq_true', Bool.or_eq_false_iff] at h1
            refine ⟨h1.1.1, h1.1.2, fun h4 => ?_⟩
            rcases h1.2 with h2 | h2
            · exact h2
            · rw [h4] at h2; exact absurd h2.1 (by decide)
          by_cases e5 : (s.toOpen p f).2.1 = 0
          · rw [if_pos e5]
            have hpl : (s.place p).1 = 0 ∧ (s.place p).2.there = 0 ∧ (s.toOpen p f).2.2 = (s.place p).2 := by
              unfold Tr.toOpen at e2 e5 ⊢
              by_cases c1 : bitF f 1 = true ∧ ((s.place p).1 ≠ 0 ∨ (s.place p).2.there = 0)
              · rw [if_pos c1] at e2 e5 ⊢
                have c2 : (s.place p).1 = 0 := Decidable.of_not_not e2
                exact ⟨c2, c1.2.resolve_left fun c3 => c3 c2, rfl⟩
              · rw [if_neg c1] at e2 e5
                by_cases c2 : bitF f 1 = true ∧ bitF f 2 = true
                · rw [if_pos c2] at e2; exact absurd (by decide) e2
                · rw [if_neg c2] at e2 e5
                  obtain ⟨x, hx⟩ := h.find_alive (Decidable.of_not_not e2)
                  exact absurd e5 (h.pos hx)
            obtain ⟨y, hq⟩ := h.spot_at hp hpl.1
            rw [hpl.2.2]
            have h1 := h.fresh hq hpl.2.1 (nodeOk_new b 1 (.inl rfl)) rfl rfl rfl
            have hn : (s.fresh (s.place p).2 (ndNew 1)).opt s.nd.length = some ((ndNew 1).named (s.place p).2.dir (s.place p).2.nm) := by
              obtain ⟨⟨d, nm, t⟩, hqq⟩ : ∃ z, (s.place p).2 = z := ⟨_, rfl⟩
              rw [hqq] at hq ⊢
              have hlt := Tr.opt_lt hq.dir
              simp only at hlt
              unfold Tr.fresh
              rw [Tr.opt_hang (y := y) (x := ndNew 1) (by rw [Tr.opt_make, if_neg (by omega)]; exact hq.dir) (by rw [Tr.opt_make, if_pos rfl]) (by omega), if_pos rfl]
            have hk1 : ((ndNew 1).named (s.place p).2.dir (s.place p).2.nm).kind = 1 := named_kind _ _ _
            obtain ⟨h2, ⟨x', hx', hk'⟩, h3⟩ := h1.cut0 hn (f := f) fun _ => hk1
            rw [hk1] at hk'
            have h4 := h2.set_open (k := leastF s.tb) (by rw [h3]; exact leastF_is s.tb) hle hx' (by omega) hmo.1 hmo.2.1 (fun _ => hk')
            rw [h3] at h4
            exact h4
          · rw [if_neg e5]
            have hfi : (s.find p false).1 = 0 ∧ (s.toOpen p f).2.1 = (s.find p false).2 := by
              unfold Tr.toOpen at e2 e5 ⊢
              by_cases c1 : bitF f 1 = true ∧ ((s.place p).1 ≠ 0 ∨ (s.place p).2.there = 0)
              · rw [if_pos c1] at e5; exact absurd rfl e5
              · rw [if_neg c1] at e2 e5 ⊢
                by_cases c2 : bitF f 1 = true ∧ bitF f 2 = true
                · rw [if_pos c2] at e2; exact absurd (by decide) e2
                · rw [if_neg c2] at e2 ⊢
                  exact ⟨Decidable.of_not_not e2, rfl⟩
            rw [hfi.2] at e3 e5 ⊢
            obtain ⟨x, hx⟩ := h.find_alive hfi.1
            have hk3 := (h.find_live hfi.1).2 rfl
            rw [Tr.at_of hx] at e3 hk3
            have hk1 : bitF f 32 = true → x.kind = 1 := fun c => by
              have := (h.each _ x hx).kind
              have : x.kind ≠ 2 := fun c2 => e3 ⟨e5, c2, c⟩
              omega
            obtain ⟨h2, ⟨x', hx', hk'⟩, h3⟩ := h.cut0 hx (f := f) fun c => hk1 (hmo.2.2 c)
            have h4 := h2.set_open (k := leastF s.tb) (by rw [h3]; exact leastF_is s.tb) hle hx' (by omega) hmo.1 hmo.2.1 (fun c => by rw [hk']; exact hk1 c)
            rw [h3] at h4
            exact h4.mono (Nat.le_add_right b 2)
theorem Ok.do_close (h : Ok b s) (fd : Int) : Ok b (s.close fd).2 := by
  unfold Tr.close
  by_cases ht : thereB s.tb fd = true
  · rw [if_pos ht]
    obtain ⟨hf, hon⟩ := there_iff ht
    have hlen := h.tabs.1
    obtain ⟨i, x, p1, hx, _⟩ := h.tabs.2 fd.toNat hf hon
    have hpl : ∀ j, pl (s.tb.set fd.toNat p0) j = if j = fd.toNat then p0 else pl s.tb j := fun j => pl_set (by omega)
    have h1 : OkE b { s with tb := s.tb.set fd.toNat p0 } fun j => j = i := by
      refine h.e.set_tab (by rw [List.length_set]; exact hlen) (fun _ h => h.elim) (fun j z hz hl hh => ?_) (fun j hj hjo => ?_)
      · obtain ⟨m, hm, m1, m2⟩ := held_some hh
        by_cases e : m = fd.toNat
        · rw [e, p1] at m2
          exact .inl (by omega)
        · exact .inr (held_yes hm (by rw [hpl, if_neg e]; exact m1) (by rw [hpl, if_neg e, m2]; simp))
      · rw [hpl] at hjo ⊢
        by_cases e : j = fd.toNat
        · rw [if_pos e] at hjo; cases hjo
        · rw [if_neg e] at hjo ⊢
          exact h.tabs.2 j hj hjo
    rw [p1]
    exact (h1.leave (i := i) (x := x) hx fun _ hl => h.lost_empty hx hl).ok fun j hj => hj.2 hj.1
  · rw [if_neg ht]; exact h
theorem Ok.do_read (h : Ok b s) (hdl : ∀ i x, s.opt i = some x → x.data.length ≤ 20736) (fd n : Int) : Ok b (s.read fd n).2 := by
  unfold Tr.read
  by_cases e1 : s.toRead fd ≠ 0
  · rw [if_pos e1]; exact h
  · rw [if_neg e1]
    by_cases e2 : n < 0
    · rw [if_pos e2]; exact h
    · rw [if_neg e2]
      obtain ⟨x, hx, _, h0, h1, ht⟩ := h.toRead_file (Decidable.of_not_not e1)
      have := hdl _ x hx
      rw [Tr.at_of hx]
      have hr : (x.read (s.plc fd).off.toNat n.toNat).length ≤ x.data.length - (s.plc fd).off.toNat := by
        unfold Nd.read
        rw [List.length_take, List.length_drop]
        omega
      exact h.move ht (by omega) (by omega)
theorem Ok.do_seek (h : Ok b s) (fd off n : Int) : Ok b (s.seek fd off n).2 := by
  unfold Tr.seek
  by_cases e1 : s.toRead fd ≠ 0
  · rw [if_pos e1]; exact h
  · rw [if_neg e1]
    by_cases e2 : n < 0 ∨ 2 < n
    · rw [if_pos e2]; exact h
    · rw [if_neg e2]
      by_cases e3 : off < -(s.base fd n) ∨ 1099511627776 - s.base fd n < off
      · rw [if_pos e3]; exact h
      · rw [if_neg e3]
        obtain ⟨x, hx, _, h0, h1, ht⟩ := h.toRead_file (Decidable.of_not_not e1)
        exact h.move ht (by omega) (by omega)
theorem Ok.lay (h : Ok b s) {i : Nat} {x : Nd} (hx : s.opt i = some x) (hk : x.kind = 1) (off : Int) (l : List Nat) : Ok b (s.lay i off l).2 := by
  unfold Tr.lay
  split
  · exact h
  · split
    · exact h
    · obtain ⟨h1, h2, h3, h4, h5, h6⟩ := write_same x off.toNat l
      rw [Tr.at_of hx]
      exact h.put_file hx hk h1 h2 h3 h4 h5 h6
theorem Ok.do_write (h : Ok b s) (fd : Int) (l : List Nat) : Ok b (s.write fd l).2 := by
  unfold Tr.write
  by_cases e1 : s.toWrite fd ≠ 0
  · rw [if_pos e1]; exact h
  · rw [if_neg e1]
    have e1' := Decidable.of_not_not e1
    obtain ⟨x, hx, hk⟩ := h.toWrite_file e1'
    obtain ⟨ht, _, _, h0, h1⟩ := h.toWrite_plc e1'
    have hl := h.lay hx hk (s.from fd) l
    by_cases e2 : (s.lay (s.nof fd) (s.from fd) l).1 ≠ 0
    · rw [if_pos e2]; exact h
    · rw [if_neg e2]
      by_cases e3 : l = []
      · rw [if_pos e3]; exact h
      · rw [if_neg e3]
        have hz : ∃ z : Nat, s.from fd = ((z : Nat) : Int) := by
          unfold Tr.from
          split
          · exact ⟨_, rfl⟩
          · exact ⟨(s.plc fd).off.toNat, by omega⟩
        obtain ⟨z, hz⟩ := hz
        rw [hz] at hl e2 ⊢
        obtain ⟨h2, h3⟩ := (lay_code (s := s) (s4 := (s.lay (s.nof fd) ((z : Nat) : Int) l).2) (c := (s.lay (s.nof fd) ((z : Nat) : Int) l).1) (i := s.nof fd) (z := z) (l := l) rfl).2.2 (Decidable.of_not_not e2) e3
        exact hl.move (by rw [h3]; exact ht) (by omega) (by omega)
theorem Ok.do_writeAt (h : Ok b s) (fd off : Int) (l : List Nat) : Ok b (s.writeAt fd off l).2 := by
  unfold Tr.writeAt
  by_cases e1 : s.toWrite fd ≠ 0
  · rw [if_pos e1]; exact h
  · rw [if_neg e1]
    by_cases e2 : off < 0
    · rw [if_pos e2]; exact h
    · rw [if_neg e2]
      obtain ⟨x, hx, hk⟩ := h.toWrite_file (Decidable.of_not_not e1)
      split
      · exact h
      · exact h.lay hx hk off l
theorem Ok.do_trunc (h : Ok b s) (fd n : Int) : Ok b (s.trunc fd n).2 := by
  unfold Tr.trunc
  by_cases e1 : s.toWrite fd ≠ 0
  · rw [if_pos e1]; exact h
  · rw [if_neg e1]
    obtain ⟨x, hx, hk⟩ := h.toWrite_file (Decidable.of_not_not e1)
    split
    · exact h
    · split
      · exact h
      · rw [Tr.at_of hx]
        exact h.resize hx hk _
theorem Ok.do_mkdir (h : Ok b s) {p : List Nat} (hp : Octs p) : Ok (b + 2) (s.mkdir p).2 := by
  unfold Tr.mkdir
  by_cases e1 : s.free p ≠ 0
  · rw [if_pos e1]; exact h.mono (Nat.le_add_right b 2)
  · rw [if_neg e1]
    obtain ⟨h1, h2⟩ := free_none (Decidable.of_not_not e1)
    obtain ⟨y, hq⟩ := h.spot_at hp h1
    exact h.fresh hq h2 (nodeOk_new b 2 (.inr rfl)) rfl rfl rfl
theorem Ok.do_symlink (h : Ok b s) (t : List Nat) {p : List Nat} (hp : Octs p) : Ok (b + 2) (s.symlink t p).2 := by
  unfold Tr.symlink
  by_cases e0 : codeS 100 t ≠ 0
  · rw [if_pos e0]; exact h.mono (Nat.le_add_right b 2)
  · rw [if_neg e0]
    by_cases e1 : s.free p ≠ 0
    · rw [if_pos e1]; exact h.mono (Nat.le_add_right b 2)
    · rw [if_neg e1]
      obtain ⟨h1, h2⟩ := free_none (Decidable.of_not_not e1)
      obtain ⟨y, hq⟩ := h.spot_at hp h1
      refine h.fresh hq h2 ⟨.inr (.inr rfl), fun _ => ⟨rfl, rfl⟩, fun _ => Decidable.of_not_not e0, fun h3 => ?_, List.Pairwise.nil, fun e he => (by cases he), Nat.zero_le _, Nat.zero_le _, Nat.zero_le _, .nil, Nat.zero_le _⟩ rfl rfl rfl
      have : (3 : Nat) = 2 := h3
      omega
theorem Ok.do_unlink (h : Ok b s) {p : List Nat} (hp : Octs p) : Ok b (s.unlink p).2 := by
  unfold Tr.unlink
  by_cases e1 : s.taken p ≠ 0
  · rw [if_pos e1]; exact h
  · rw [if_neg e1]
    obtain ⟨h1, h2⟩ := taken_bad (Decidable.of_not_not e1)
    obtain ⟨y, hq⟩ := h.spot_at hp h1
    obtain ⟨x, hx⟩ := h.spot_there hp h1 h2
    rw [Tr.at_of hx]
    by_cases e2 : x.kind = 2
    · rw [if_pos e2]; exact h
    · rw [if_neg e2]
      exact h.lose hq h2 hx fun e => absurd e e2
theorem Ok.do_rmdir (h : Ok b s) {p : List Nat} (hp : Octs p) : Ok b (s.rmdir p).2 := by
  unfold Tr.rmdir
  by_cases e1 : s.taken p ≠ 0
  · rw [if_pos e1]; exact h
  · rw [if_neg e1]
    obtain ⟨h1, h2⟩ := taken_bad (Decidable.of_not_not e1)
    obtain ⟨y, hq⟩ := h.spot_at hp h1
    obtain ⟨x, hx⟩ := h.spot_there hp h1 h2
    rw [Tr.at_of hx]
    by_cases e2 : x.kind ≠ 2
    · rw [if_pos e2]; exact h
    · rw [if_neg e2]
      by_cases e3 : x.ents.length ≠ 0
      · rw [if_pos e3]; exact h
      · rw [if_neg e3]
        exact h.lose hq h2 hx fun _ => List.length_eq_zero_iff.1 (Decidable.of_not_not e3)
theorem Ok.do_link (h : Ok b s) (p : List Nat) {q : List Nat} (hq : Octs q) : Ok (b + 1) (s.link p q).2 := by
  unfold Tr.link
  have h' := h.mono (Nat.le_succ b)
  by_cases e1 : (s.find p true).1 ≠ 0
  · rw [if_pos e1]; exact h'
  · rw [if_neg e1]
    obtain ⟨x, hx⟩ := h.find_alive (Decidable.of_not_not e1)
    rw [Tr.at_of hx]
    by_cases e2 : x.kind = 2
    · rw [if_pos e2]; exact h'
    · rw [if_neg e2]
      by_cases e3 : s.free q ≠ 0
      · rw [if_pos e3]; exact h'
      · rw [if_neg e3]
        obtain ⟨h1, h2⟩ := free_none (Decidable.of_not_not e3)
        obtain ⟨y, hqq⟩ := h.spot_at hq h1
        exact h.hang_file hqq h2 hx e2
end
end Go.Proofs.YtgcodlicbdaddaaGreatDoor
end
