/-
  lose; mkdir, rmdir, unlink.
  Entries and how often each node is named, when a name comes or goes.
-/
import Derived.Test.YtgcodlicbdaddaaGreatDoorB20
import Derived.Test.YtgcodlicbdaddaaGreatDoorB18

section
set_option linter.unusedVariables false
set_option linter.unusedSimpArgs false
namespace Go.Proofs.YtgcodlicbdaddaaGreatDoor
open Go.RowKit BigFrame
set_option maxRecDepth 100000

section
variable {w : World} {B b : Nat} {A : Ad} {s : Tr}
theorem Tr.take_eq {d i : Nat} {y x : Nd} (hd : s.opt d = some y) (hi : s.opt i = some x) (hdi : d ≠ i) (nm : List Nat) : s.take ⟨d, nm, i⟩ = (s.put d { y with ents := delE nm y.ents }).put i x.unnamed := by
  have hi2 : (s.put d { y with ents := delE nm y.ents }).opt i = some x := (Tr.opt_put_other hd (Ne.symm hdi)).trans hi
  unfold Tr.take
  rw [Tr.at_of hd, Tr.at_of hi2]
theorem Tr.take_opt {d i : Nat} {y x : Nd} (hd : s.opt d = some y) (hi : s.opt i = some x) (hdi : d ≠ i) (nm : List Nat) : (s.take ⟨d, nm, i⟩).opt i = some x.unnamed := by
  have hi2 : (s.put d { y with ents := delE nm y.ents }).opt i = some x := (Tr.opt_put_other hd (Ne.symm hdi)).trans hi
  rw [Tr.take_eq hd hi hdi]
  exact Tr.opt_put_same hi2
theorem Tr.take_len {d i : Nat} {y x : Nd} (hd : s.opt d = some y) (hi : s.opt i = some x) (hdi : d ≠ i) (nm : List Nat) : (s.take ⟨d, nm, i⟩).nd.length = s.nd.length := by
  rw [Tr.take_eq hd hi hdi, Tr.put_len, Tr.put_len]
theorem lose_any (h : TreeAt w B A s) (hs : s.nd.length ≤ 1000000) (hb : b ≤ 1000000) {d i : Nat} {y x : Nd} (hd : s.opt d = some y) (hk : y.kind = 2) (hi : s.opt i = some x) (hyd : NodeOk b y) (hpos : ∀ e ∈ y.ents, e.2 ≠ 0) (hxl : x.links ≤ b) (hdi : d ≠ i) {nm : List Nat} (hn : Octs nm) (hl : nm.length ≤ 24) (hlk : 1 ≤ x.links) :
    Calls Tryz.prog 143 #[.pointer (some ⟨A.t, 0, none⟩), .agg #[.pointer (some ⟨A.nd d, 0, none⟩), .string (strOf nm), .pointer (some ⟨A.nd i, 0, none⟩)]] w (TurnPost B A (s.lose ⟨d, nm, i⟩) w) := by
  have h' := Lib.hid h
  have hb0 := Lib.hid ((Below.refl w.heap.size w).alloc (Nat.le_refl _) (.cells #[.pointer (some ⟨A.nd d, 0, none⟩), .string (strOf nm), .pointer (some ⟨A.nd i, 0, none⟩)] 171))
  have V0 := Lib.hid (show Vw (w.alloc (.cells #[.pointer (some ⟨A.nd d, 0, none⟩), .string (strOf nm), .pointer (some ⟨A.nd i, 0, none⟩)] 171)) 171 w.heap.size [.pointer (some ⟨A.nd d, 0, none⟩), .string (strOf nm), .pointer (some ⟨A.nd i, 0, none⟩)] from Vw.alloc w [.pointer (some ⟨A.nd d, 0, none⟩), .string (strOf nm), .pointer (some ⟨A.nd i, 0, none⟩)] 171)
  have hno : A.own w.heap.size = none := by
    cases e : A.own w.heap.size with
    | none => rfl
    | some r => exact absurd (h.hi _ _ e).2 (Nat.lt_irrefl _)
  have ho1 := Lib.hid (Tr.take_opt hd hi hdi nm)
  have hl1 := Lib.hid (show (s.take ⟨d, nm, i⟩).nd.length ≤ 1000000 by rw [Tr.take_len hd hi hdi]; exact hs)
  clear h
  go_enter Tryz.func143, Tryz.ntmps143
  go_wp2_with (first
    | (go_at_call 174; refine (take_any (h'.out.below hb0.out) hb hd hk hi hyd hpos hxl hdi hn hl hlk).mono ?_; rintro e w1 ⟨rfl, ht1, hs1⟩; have T1 := Lib.hid ht1; have S1 := Lib.hid ((TStep.of_below A hb0.out).trans hs1); have V1 := Lib.hid (show Vw w1 171 w.heap.size [.pointer (some ⟨A.nd d, 0, none⟩), .string (strOf nm), .pointer (some ⟨A.nd i, 0, none⟩)] by (have h1 := V0.out; unfold Vw at h1 ⊢; rw [hs1.block _ (by simp) hno]; exact h1)); have k2 := V1.out.cell (k := 2) rfl; clear ht1 hs1)
    | (go_at_call 134; refine (leave_any T1.out hl1.out ho1.out).mono ?_; rintro e w2 ⟨rfl, ht2, hs2⟩; have T2 := Lib.hid ht2; have S2 := Lib.hid (S1.out.trans hs2); clear ht2 hs2))
  go_end0
  exact ⟨rfl, T2.out, S2.out⟩
def CodePost (B : Nat) (A : Ad) (s : Tr) (c : Int) (w : World) (e : Ending) (w' : World) : Prop := e = .returned (.int .i64 c) ∧ ∃ A', TreeAt w' B A' s ∧ TStep w A w' A'
theorem taken_bad {l : List Nat} : s.taken l = 0 → (s.place l).1 = 0 ∧ (s.place l).2.there ≠ 0 := fun h => by
  unfold Tr.taken at h
  by_cases h1 : (s.place l).1 = 0 ∧ (s.place l).2.there = 0
  · rw [if_pos h1] at h; exact absurd h (by decide)
  · rw [if_neg h1] at h; exact ⟨h, fun h2 => h1 ⟨h, h2⟩⟩
set_option maxHeartbeats 1000000 in
theorem unlink_any (h : TreeAt w B A s) (ho : Ok b s) (hb : b ≤ 900000) (p : ByteArray) :
    Calls Tryz.prog 89 #[.pointer (some ⟨A.t, 0, none⟩), .string p] w (CodePost B A (s.unlink (nb p)).2 (s.unlink (nb p)).1.code w) := by
  have h' := Lib.hid h
  have hsp := taken_any h ho (by omega) p
  unfold SpotPost at hsp
  have hul : s.unlink (nb p) = if s.taken (nb p) ≠ 0 then (ansC (s.taken (nb p)), s) else if (s.at (s.place (nb p)).2.there).kind = 2 then (ansC 8, s) else (ans0, s.lose (s.place (nb p)).2) := rfl
  clear h
  by_cases hc : s.taken (nb p) = 0
  · obtain ⟨h1, h2⟩ := taken_bad hc
    obtain ⟨y, x, q⟩ := ho.stands (nb_octs p) h1 h2
    rw [hc, h1, spV_some A q.there] at hsp
    rw [hc, if_neg (by decide), Tr.at_of q.there] at hul
    obtain ⟨⟨d, nm, i⟩, hq⟩ : ∃ z, (s.place (nb p)).2 = z := ⟨_, rfl⟩
    have qd := q.dir; have qn := q.name; have qt := q.there; have qm := q.mem; have qa := q.apart
    rw [hq] at hsp hul qd qn qt qm qa
    have hfc := Lib.hid (show ∀ w', TreeAt w' B A s → Calls Tryz.prog 143 #[.pointer (some ⟨A.t, 0, none⟩), .agg #[.pointer (some ⟨A.nd d, 0, none⟩), .string (strOf nm), .pointer (some ⟨A.nd i, 0, none⟩)]] w' (TurnPost B A (s.lose ⟨d, nm, i⟩) w') from fun w' hw' =>
      lose_any hw' (by have := ho.len.2; omega) (by omega) qd q.kind qt (ho.each d y qd) (ho.ent_pos qd) (ho.each i x qt).links qa qn.octs qn.long q.links)
    have hsp' := Lib.hid hsp
    have qt' := Lib.hid qt
    by_cases hk : x.kind = 2
    · rw [if_pos hk] at hul
      have hul' := Lib.hid hul
      clear hul hsp hq qd qn qm qa q
      go_enter Tryz.func89, Tryz.ntmps89
      go_wp2_with (go_at_call 142; refine hsp'.out.mono ?_; rintro e w1 ⟨rfl, hb1⟩; have hB1 := Lib.hid (hb1.alloc hb1.size (.cells #[.pointer (some ⟨A.nd d, 0, none⟩), .string (strOf nm), .pointer (some ⟨A.nd i, 0, none⟩)] 171)); have ck := ((h'.out.below hB1.out).node i x qt'.out).kind; rw [hk] at ck; clear hb1)
      go_ret
      rw [hul'.out]
      exact ⟨rfl, A, h'.out.below hB1.out, TStep.of_below A hB1.out⟩
    · rw [if_neg hk] at hul
      have hul' := Lib.hid hul
      have t0 : (((x.kind : Nat) : Int) == 2) = false := nat_beq_ne (b := 2) hk
      clear hul hsp hq qd qn qm qa q
      go_enter Tryz.func89, Tryz.ntmps89
      go_wp2_with (first
        | (go_at_call 142; refine hsp'.out.mono ?_; rintro e w1 ⟨rfl, hb1⟩; have hB1 := Lib.hid (hb1.alloc hb1.size (.cells #[.pointer (some ⟨A.nd d, 0, none⟩), .string (strOf nm), .pointer (some ⟨A.nd i, 0, none⟩)] 171)); have ck := ((h'.out.below hB1.out).node i x qt'.out).kind; clear hb1)
        | (go_at_call 143; refine (hfc.out _ (h'.out.below hB1.out)).mono ?_; rintro e w2 ⟨rfl, hT2, hS2⟩; have T2 := Lib.hid hT2; have S2 := Lib.hid ((TStep.of_below A hB1.out).trans hS2); clear hT2 hS2))
      go_ret
      rw [hul'.out]
      exact ⟨rfl, A, T2.out, S2.out⟩
  · rw [if_pos hc] at hul
    obtain ⟨o1, z, o2, hf⟩ := spV_form A s (s.place (nb p)).1 (s.place (nb p)).2
    rw [hf] at hsp
    obtain ⟨c, hcc⟩ : ∃ c, s.taken (nb p) = c := ⟨_, rfl⟩
    rw [hcc] at hsp hul hc
    have hul' := Lib.hid hul
    have hsp' := Lib.hid hsp
    have t0 : (c != 0) = true := by rw [bne_iff_ne]; exact hc
    clear hul hsp hf hcc
    go_enter Tryz.func89, Tryz.ntmps89
    go_wp2_with (go_at_call 142; refine hsp'.out.mono ?_; rintro e w1 ⟨rfl, hb1⟩; have hB1 := Lib.hid (hb1.alloc hb1.size (.cells #[.pointer o1, .string z, .pointer o2] 171)); clear hb1)
    go_ret
    rw [hul'.out]
    exact ⟨rfl, A, h'.out.below hB1.out, TStep.of_below A hB1.out⟩
set_option maxHeartbeats 1000000 in
theorem rmdir_any (h : TreeAt w B A s) (ho : Ok b s) (hb : b ≤ 900000) (p : ByteArray) :
    Calls Tryz.prog 88 #[.pointer (some ⟨A.t, 0, none⟩), .string p] w (CodePost B A (s.rmdir (nb p)).2 (s.rmdir (nb p)).1.code w) := by
  have h' := Lib.hid h
  have hsp := taken_any h ho (by omega) p
  unfold SpotPost at hsp
  have hul : s.rmdir (nb p) = if s.taken (nb p) ≠ 0 then (ansC (s.taken (nb p)), s) else if (s.at (s.place (nb p)).2.there).kind ≠ 2 then (ansC 7, s) else if (s.at (s.place (nb p)).2.there).ents.length ≠ 0 then (ansC 9, s) else (ans0, s.lose (s.place (nb p)).2) := rfl
  clear h
  by_cases hc : s.taken (nb p) = 0
  · obtain ⟨h1, h2⟩ := taken_bad hc
    obtain ⟨y, x, q⟩ := ho.stands (nb_octs p) h1 h2
    rw [hc, h1, spV_some A q.there] at hsp
    rw [hc, if_neg (by decide), Tr.at_of q.there] at hul
    obtain ⟨⟨d, nm, i⟩, hq⟩ : ∃ z, (s.place (nb p)).2 = z := ⟨_, rfl⟩
    have qd := q.dir; have qn := q.name; have qt := q.there; have qm := q.mem; have qa := q.apart
    rw [hq] at hsp hul qd qn qt qm qa
    have hfc := Lib.hid (show ∀ w', TreeAt w' B A s → Calls Tryz.prog 143 #[.pointer (some ⟨A.t, 0, none⟩), .agg #[.pointer (some ⟨A.nd d, 0, none⟩), .string (strOf nm), .pointer (some ⟨A.nd i, 0, none⟩)]] w' (TurnPost B A (s.lose ⟨d, nm, i⟩) w') from fun w' hw' =>
      lose_any hw' (by have := ho.len.2; omega) (by omega) qd q.kind qt (ho.each d y qd) (ho.ent_pos qd) (ho.each i x qt).links qa qn.octs qn.long q.links)
    have hsp' := Lib.hid hsp
    have qt' := Lib.hid qt
    by_cases hk : x.kind = 2
    · rw [if_neg (fun h => h hk)] at hul
      have hsz : x.size = x.ents.length := by unfold Nd.size; rw [if_pos hk]
      by_cases he : x.ents.length = 0
      · rw [if_neg (fun h => h he)] at hul
        have hz : x.size = 0 := hsz.trans he
        have hul' := Lib.hid hul
        clear hsz he
        clear hul hsp hq qd qn qm qa q
        go_enter Tryz.func88, Tryz.ntmps88
        go_wp2_with (first
        | (go_at_call 142; refine hsp'.out.mono ?_; rintro e w1 ⟨rfl, hb1⟩; have hB1 := Lib.hid (hb1.alloc hb1.size (.cells #[.pointer (some ⟨A.nd d, 0, none⟩), .string (strOf nm), .pointer (some ⟨A.nd i, 0, none⟩)] 171)); have ck := ((h'.out.below hB1.out).node i x qt'.out).kind; rw [hk] at ck; clear hb1)
        | (go_at_call 139; refine (size_any _ ((h'.out.below hB1.out).node i x qt'.out)).mono ?_; rintro e w2 ⟨rfl, rfl⟩)
        | (go_at_call 143; refine (hfc.out _ (h'.out.below hB1.out)).mono ?_; rintro e w3 ⟨rfl, hT2, hS2⟩; have T2 := Lib.hid hT2; have S2 := Lib.hid ((TStep.of_below A hB1.out).trans hS2); clear hT2 hS2))
        go_ret
        rw [hul'.out]
        exact ⟨rfl, A, T2.out, S2.out⟩
      · rw [if_pos he] at hul
        have t1 : (((x.size : Nat) : Int) == 0) = false := nat_beq_ne (b := 0) (by rw [hsz]; exact he)
        have t2 : (((x.size : Nat) : Int) != 0) = true := by rw [bne_iff_ne]; omega
        have hul' := Lib.hid hul
        clear hsz he
        clear hul hsp hq qd qn qm qa q
        go_enter Tryz.func88, Tryz.ntmps88
        go_wp2_with (first
        | (go_at_call 142; refine hsp'.out.mono ?_; rintro e w1 ⟨rfl, hb1⟩; have hB1 := Lib.hid (hb1.alloc hb1.size (.cells #[.pointer (some ⟨A.nd d, 0, none⟩), .string (strOf nm), .pointer (some ⟨A.nd i, 0, none⟩)] 171)); have ck := ((h'.out.below hB1.out).node i x qt'.out).kind; rw [hk] at ck; clear hb1)
        | (go_at_call 139; refine (size_any _ ((h'.out.below hB1.out).node i x qt'.out)).mono ?_; rintro e w2 ⟨rfl, rfl⟩))
        go_ret
        rw [hul'.out]
        exact ⟨rfl, A, h'.out.below hB1.out, TStep.of_below A hB1.out⟩
    · rw [if_pos hk] at hul
      have hul' := Lib.hid hul
      have t0 : (((x.kind : Nat) : Int) == 2) = false := nat_beq_ne (b := 2) hk
      have t1 : (((x.kind : Nat) : Int) != 2) = true := by rw [bne_iff_ne]; omega
      clear hul hsp hq qd qn qm qa q
      go_enter Tryz.func88, Tryz.ntmps88
      go_wp2_with (first
        | (go_at_call 142; refine hsp'.out.mono ?_; rintro e w1 ⟨rfl, hb1⟩; have hB1 := Lib.hid (hb1.alloc hb1.size (.cells #[.pointer (some ⟨A.nd d, 0, none⟩), .string (strOf nm), .pointer (some ⟨A.nd i, 0, none⟩)] 171)); have ck := ((h'.out.below hB1.out).node i x qt'.out).kind; clear hb1))
      go_ret
      rw [hul'.out]
      exact ⟨rfl, A, h'.out.below hB1.out, TStep.of_below A hB1.out⟩
  · rw [if_pos hc] at hul
    obtain ⟨o1, z, o2, hf⟩ := spV_form A s (s.place (nb p)).1 (s.place (nb p)).2
    rw [hf] at hsp
    obtain ⟨c, hcc⟩ : ∃ c, s.taken (nb p) = c := ⟨_, rfl⟩
    rw [hcc] at hsp hul hc
    have hul' := Lib.hid hul
    have hsp' := Lib.hid hsp
    have t0 : (c != 0) = true := by rw [bne_iff_ne]; exact hc
    clear hul hsp hf hcc
    go_enter Tryz.func88, Tryz.ntmps88
    go_wp2_with (go_at_call 142; refine hsp'.out.mono ?_; rintro e w1 ⟨rfl, hb1⟩; have hB1 := Lib.hid (hb1.alloc hb1.size (.cells #[.pointer o1, .string z, .pointer o2] 171)); clear hb1)
    go_ret
    rw [hul'.out]
    exact ⟨rfl, A, h'.out.below hB1.out, TStep.of_below A hB1.out⟩
end
end Go.Proofs.YtgcodlicbdaddaaGreatDoor
end

section
set_option linter.unusedVariables false
set_option linter.unusedSimpArgs false
namespace Go.Proofs.YtgcodlicbdaddaaGreatDoor

/-! ### Names in their order -/
theorem lt_or_gt {p q : List Nat} (h1 : ¬ p < q) (h2 : p ≠ q) : q < p := by
  have h3 : q ≤ p := List.not_lt.1 h1
  rcases List.le_iff_lt_or_eq.1 h3 with h | h
  · exact h
  · exact absurd h.symm h2
theorem mem_insE {p : List Nat} {n : Nat} {e : List Nat × Nat} : ∀ {l : List (List Nat × Nat)}, e ∈ insE p n l ↔ e = (p, n) ∨ e ∈ l
  | [] => by simp [insE]
  | a :: r => by
    unfold insE
    split
    · simp
    · simp only [List.mem_cons, mem_insE (l := r)]
      constructor
      · rintro (h | h | h)
        · exact .inr (.inl h)
        · exact .inl h
        · exact .inr (.inr h)
      · rintro (h | h | h)
        · exact .inr (.inl h)
        · exact .inl h
        · exact .inr (.inr h)
def Rise (l : List (List Nat × Nat)) : Prop := l.Pairwise fun p q => p.1 < q.1
theorem rise_insE {p : List Nat} {n : Nat} : ∀ {l : List (List Nat × Nat)}, Rise l → (∀ e ∈ l, e.1 ≠ p) → Rise (insE p n l)
  | [], _, _ => by simp [insE, Rise]
  | a :: r, h, hn => by
    obtain ⟨h1, h2⟩ := List.pairwise_cons.1 h
    unfold insE
    split
    · rename_i hp
      refine List.pairwise_cons.2 ⟨fun e he => ?_, h⟩
      rcases List.mem_cons.1 he with rfl | he
      · exact hp
      · exact List.lt_trans hp (h1 e he)
    · rename_i hp
      have h3 := lt_or_gt hp (fun e => hn a List.mem_cons_self e.symm)
      refine List.pairwise_cons.2 ⟨fun e he => ?_, rise_insE h2 (fun e he => hn e (List.mem_cons_of_mem _ he))⟩
      rcases mem_insE.1 he with rfl | he
      · exact h3
      · exact h1 e he
theorem mem_delE {p : List Nat} {e : List Nat × Nat} {l : List (List Nat × Nat)} : e ∈ delE p l ↔ e ∈ l ∧ e.1 ≠ p := by
  unfold delE
  rw [List.mem_filter]
  simp
theorem rise_delE {p : List Nat} {l : List (List Nat × Nat)} (h : Rise l) : Rise (delE p l) := List.Pairwise.sublist List.filter_sublist h
theorem rise_one : ∀ {l : List (List Nat × Nat)}, Rise l → ∀ {p : List Nat} {i j : Nat}, (p, i) ∈ l → (p, j) ∈ l → i = j
  | e :: r, hs, p, i, j, h1, h2 => by
    obtain ⟨ha, hr⟩ := List.pairwise_cons.1 hs
    rcases List.mem_cons.1 h1 with e1 | e1 <;> rcases List.mem_cons.1 h2 with e2 | e2
    · rw [← e1] at e2; exact (congrArg Prod.snd e2).symm
    · have := ha _ e2; rw [← e1] at this; exact absurd this (List.lt_irrefl _)
    · have := ha _ e1; rw [← e2] at this; exact absurd this (List.lt_irrefl _)
    · exact rise_one hr e1 e2
theorem lookE_mem {l : List (List Nat × Nat)} (h : Rise l) {p : List Nat} {i : Nat} (hm : (p, i) ∈ l) (h0 : ∀ e ∈ l, e.2 ≠ 0) : lookE l p = i := by
  by_cases hz : lookE l p = 0
  · exact absurd rfl (look_none hz h0 _ hm)
  · exact rise_one h (look_mem rfl hz) hm
theorem lookE_insE {p : List Nat} {n : Nat} : ∀ {l : List (List Nat × Nat)}, (∀ e ∈ l, e.1 ≠ p) → ∀ q, lookE (insE p n l) q = if q = p then n else lookE l q
  | [], _, q => by
    unfold insE lookE lookE
    by_cases h : q = p
    · subst h; simp
    · rw [if_neg h, if_neg (Ne.symm h)]
  | a :: r, hn, q => by
    have hr := fun e he => hn e (List.mem_cons_of_mem _ he)
    unfold insE
    split
    · rw [lookE]
      by_cases h : q = p
      · subst h; simp
      · rw [if_neg h, if_neg (Ne.symm h)]
    · rw [lookE, lookE_insE hr q]
      by_cases h : q = p
      · subst h
        rw [if_pos rfl, if_neg (hn a List.mem_cons_self)]
        simp
      · rw [if_neg h, if_neg h, lookE]
theorem lookE_delE {p : List Nat} : ∀ {l : List (List Nat × Nat)} (q : List Nat), lookE (delE p l) q = if q = p then 0 else lookE l q
  | [], q => by unfold delE lookE; simp
  | a :: r, q => by
    have ih := lookE_delE (p := p) (l := r) q
    unfold delE at ih ⊢
    rw [List.filter_cons]
    by_cases ha : a.1 = p
    · rw [if_neg (by simpa using ha), ih]
      by_cases h : q = p
      · rw [if_pos h, if_pos h]
      · rw [if_neg h, if_neg h, lookE, if_neg (fun e => h (by rw [← e, ha]))]
    · rw [if_pos (by simpa using ha), lookE, lookE, ih]
      by_cases h : q = p
      · rw [if_pos h, if_pos h, if_neg (fun e => ha (by rw [e, h]))]
      · rw [if_neg h, if_neg h]

/-! ### How often a node is named -/
theorem refsE_insE (j : Nat) (p : List Nat) (n : Nat) : ∀ l : List (List Nat × Nat), refsE j (insE p n l) = refsE j l + (if n = j then 1 else 0)
  | [] => by
    unfold refsE insE
    by_cases h : n = j
    · subst h; simp
    · simp [h]
  | a :: r => by
    have ih := refsE_insE j p n r
    unfold insE
    split
    · unfold refsE
      rw [List.filter_cons]
      by_cases h : n = j
      · subst h; simp
      · rw [if_neg (by simpa using h), if_neg h]; rfl
    · unfold refsE at ih ⊢
      rw [List.filter_cons, List.filter_cons]
      by_cases h : (a.2 == j) = true
      · rw [if_pos h, if_pos h, List.length_cons, List.length_cons, ih]; omega
      · rw [if_neg h, if_neg h, ih]
theorem refsE_delE (j : Nat) {p : List Nat} {i : Nat} : ∀ {l : List (List Nat × Nat)}, Rise l → (p, i) ∈ l → refsE j (delE p l) + (if i = j then 1 else 0) = refsE j l
  | a :: r, hs, hm => by
    obtain ⟨ha, hr⟩ := List.pairwise_cons.1 hs
    rcases List.mem_cons.1 hm with e | e
    · subst e
      have h1 : delE p ((p, i) :: r) = r := by
        unfold delE
        rw [List.filter_cons, if_neg (by simp)]
        exact List.filter_eq_self.2 fun e he => by
          have h3 : e.1 ≠ p := fun e2 => by
            have := ha e he
            rw [e2] at this
            exact absurd this (List.lt_irrefl _)
          simpa using h3
      rw [h1]
      unfold refsE
      rw [List.filter_cons]
      by_cases h : i = j
      · subst h; simp
      · rw [if_neg h, if_neg (by simpa using h)]; rfl
    · have ih := refsE_delE j hr e
      have h1 : delE p (a :: r) = a :: delE p r := by
        unfold delE
        have h3 : a.1 ≠ p := fun e2 => by
          have := ha _ e
          rw [e2] at this
          exact absurd this (List.lt_irrefl _)
        rw [List.filter_cons, if_pos (by simpa using h3)]
      rw [h1]
      unfold refsE at ih ⊢
      rw [List.filter_cons, List.filter_cons]
      by_cases h : (a.2 == j) = true
      · rw [if_pos h, if_pos h, List.length_cons, List.length_cons, ← ih]; omega
      · rw [if_neg h, if_neg h, ih]
theorem refsL_set (j : Nat) (o' : Option Nd) : ∀ (l : List (Option Nd)) (d : Nat) (o : Option Nd), l[d]? = some o → refsL j (l.set d o') + refsO j o = refsL j l + refsO j o'
  | [], _, _, h => by simp at h
  | a :: r, 0, o, h => by
    have e : a = o := by simpa using h
    subst e
    show refsO j o' + refsL j r + refsO j a = refsO j a + refsL j r + refsO j o'
    omega
  | a :: r, d + 1, o, h => by
    have h1 := refsL_set j o' r d o (by simpa using h)
    show refsO j a + refsL j (r.set d o') + refsO j o = refsO j a + refsL j r + refsO j o'
    omega
theorem refsL_put {s : Tr} {d : Nat} {y : Nd} (y' : Nd) (hd : s.opt d = some y) (j : Nat) : refsL j (s.put d y').nd + refsE j y.ents = refsL j s.nd + refsE j y'.ents := refsL_set j (some y') s.nd d (some y) (Tr.opt_get hd)
theorem refsL_append (j : Nat) (o : Option Nd) : ∀ l : List (Option Nd), refsL j (l ++ [o]) = refsL j l + refsO j o
  | [] => by show refsO j o + 0 = 0 + refsO j o; omega
  | a :: r => by
    show refsO j a + refsL j (r ++ [o]) = refsO j a + refsL j r + refsO j o
    rw [refsL_append j o r]; omega
theorem refsL_del {s : Tr} {i : Nat} {x : Nd} (hi : s.opt i = some x) (j : Nat) : refsL j (s.del i).nd + refsE j x.ents = refsL j s.nd := refsL_set j none s.nd i (some x) (Tr.opt_get hi)
theorem refsE_zero {j : Nat} {l : List (List Nat × Nat)} (h : ∀ e ∈ l, e.2 ≠ j) : refsE j l = 0 := by
  unfold refsE
  rw [List.length_eq_zero_iff, List.filter_eq_nil_iff]
  exact fun e he => by simpa using h e he
theorem refsL_zero {j : Nat} : ∀ {l : List (Option Nd)}, (∀ (i : Nat) (x : Nd), l[i]? = some (some x) → ∀ e ∈ x.ents, e.2 ≠ j) → refsL j l = 0
  | [], _ => rfl
  | none :: r, h => by
    show 0 + refsL j r = 0
    rw [refsL_zero (l := r) fun i x hx => h (i + 1) x (by simpa using hx)]
  | some a :: r, h => by
    show refsE j a.ents + refsL j r = 0
    rw [refsL_zero (l := r) fun i x hx => h (i + 1) x (by simpa using hx), refsE_zero (h 0 a (by simp))]
theorem Tr.opt_of {s : Tr} {d : Nat} {y : Nd} (h : s.nd[d]? = some (some y)) : s.opt d = some y := by
  unfold Tr.opt
  rw [List.getD, h]; rfl
theorem refs_zero {s : Tr} {j : Nat} (h : ∀ i x, s.opt i = some x → ∀ e ∈ x.ents, e.2 ≠ j) : refsL j s.nd = 0 := refsL_zero fun i x hx => h i x (Tr.opt_of hx)
theorem refs_none {s : Tr} {j : Nat} (h : refsL j s.nd = 0) {i : Nat} {x : Nd} (hx : s.opt i = some x) : ∀ e ∈ x.ents, e.2 ≠ j := fun e he e2 => by
  have h1 := refsL_ge (i := j) (Tr.opt_get hx)
  have h2 : 1 ≤ refsE j x.ents := refsE_pos (p := e.1) (by rw [← e2]; exact he)
  omega

/-! ### What turned where -/
section
variable {s : Tr} {d i : Nat} {y x : Nd}
theorem Tr.opt_take (hd : s.opt d = some y) (hi : s.opt i = some x) (hdi : d ≠ i) (nm : List Nat) (j : Nat) :
    (s.take ⟨d, nm, i⟩).opt j = if j = i then some x.unnamed else if j = d then some { y with ents := delE nm y.ents } else s.opt j := by
  rw [Tr.take_eq hd hi hdi, Tr.opt_put (x := x) (by rw [Tr.opt_put_other hd (Ne.symm hdi)]; exact hi), Tr.opt_put hd]
theorem Tr.hang_eq (hd : s.opt d = some y) (hi : s.opt i = some x) (hdi : d ≠ i) (nm : List Nat) (th : Nat) : s.hang ⟨d, nm, th⟩ i = (s.put d (y.enter nm i)).put i (x.named d nm) := by
  unfold Tr.hang
  simp only [Tr.at_of hd]
  rw [Tr.at_of (x := x) (by rw [Tr.opt_put_other hd (Ne.symm hdi)]; exact hi)]
theorem Tr.opt_hang (hd : s.opt d = some y) (hi : s.opt i = some x) (hdi : d ≠ i) (nm : List Nat) (th j : Nat) :
    (s.hang ⟨d, nm, th⟩ i).opt j = if j = i then some (x.named d nm) else if j = d then some (y.enter nm i) else s.opt j := by
  rw [Tr.hang_eq hd hi hdi, Tr.opt_put (x := x) (by rw [Tr.opt_put_other hd (Ne.symm hdi)]; exact hi), Tr.opt_put hd]
theorem Tr.take_refs (hd : s.opt d = some y) (hi : s.opt i = some x) (hdi : d ≠ i) {nm : List Nat} (hr : Rise y.ents) (hm : (nm, i) ∈ y.ents) (j : Nat) : refsL j (s.take ⟨d, nm, i⟩).nd + (if i = j then 1 else 0) = refsL j s.nd := by
  rw [Tr.take_eq hd hi hdi]
  have h1 := refsL_put { y with ents := delE nm y.ents } hd j
  have h2 := refsL_put (s := s.put d { y with ents := delE nm y.ents }) x.unnamed (d := i) (y := x) (by rw [Tr.opt_put_other hd (Ne.symm hdi)]; exact hi) j
  have h3 := refsE_delE j hr hm
  have h4 : x.unnamed.ents = x.ents := by unfold Nd.unnamed; split <;> rfl
  rw [h4] at h2
  simp only at h1
  omega
theorem Tr.hang_refs (hd : s.opt d = some y) (hi : s.opt i = some x) (hdi : d ≠ i) (nm : List Nat) (th j : Nat) : refsL j (s.hang ⟨d, nm, th⟩ i).nd = refsL j s.nd + (if i = j then 1 else 0) := by
  rw [Tr.hang_eq hd hi hdi]
  have h1 := refsL_put (y.enter nm i) hd j
  have h2 := refsL_put (s := s.put d (y.enter nm i)) (x.named d nm) (d := i) (y := x) (by rw [Tr.opt_put_other hd (Ne.symm hdi)]; exact hi) j
  have h3 := refsE_insE j nm i y.ents
  have h4 : (x.named d nm).ents = x.ents := by unfold Nd.named; split <;> rfl
  have h5 : (y.enter nm i).ents = insE nm i y.ents := rfl
  rw [h4] at h2
  rw [h5] at h1
  omega
theorem Tr.hang_len (hd : s.opt d = some y) (hi : s.opt i = some x) (hdi : d ≠ i) (nm : List Nat) (th : Nat) : (s.hang ⟨d, nm, th⟩ i).nd.length = s.nd.length := by rw [Tr.hang_eq hd hi hdi, Tr.put_len, Tr.put_len]
theorem Tr.hang_tb (q : Spot) (i : Nat) : (s.hang q i).tb = s.tb := rfl
theorem Tr.take_tb (q : Spot) : (s.take q).tb = s.tb := rfl
end
end Go.Proofs.YtgcodlicbdaddaaGreatDoor
end
