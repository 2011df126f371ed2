/-
  Add: a node that is not there.
  A walk along links: what it has found; in memory; begun.
  A walk is begun.
  A walk goes along one link more.
  Two walks meet.
-/
import Derived.Test.YtgkmmdkagiohgaaB4
import Derived.StillTailTactics
import Derived.Deep.LoopGhost

section
set_option linter.unusedVariables false
set_option linter.unusedSimpArgs false
namespace Go.Proofs.Ytgkmmdkagiohgaa
open Go.RowKit BigFrame
set_option maxRecDepth 100000

/-- what holds of a graph's links: who is needed is there, stands below; needs are kept at both ends -/
structure GOk (G : Gr) (ρ : Nat → Nat) : Prop where
  inn : ∀ q, q < 2 → ∀ i ∈ G.ids, ∀ k ∈ G.lk q i, k ∈ G.ids
  low : ∀ i ∈ G.ids, ∀ k ∈ G.lk 0 i, ρ k < ρ i
  dual : ∀ i ∈ G.ids, ∀ k ∈ G.ids, k ∈ G.lk 0 i ↔ i ∈ G.lk 1 k
variable {w w' : World} {B a M : Nat} {G : Gr}
theorem nodup_sub : ∀ {l m : List Nat}, l.Nodup → (∀ x ∈ l, x ∈ m) → l.length ≤ m.length
  | [], _, _, _ => Nat.zero_le _
  | x :: r, m, hn, hs => by
    obtain ⟨h1, h2⟩ := List.nodup_cons.1 hn
    have hx := hs x List.mem_cons_self
    have ih := nodup_sub (l := r) (m := m.erase x) h2 fun y hy => (List.mem_erase_of_ne (show y ≠ x from fun e => h1 (e ▸ hy))).2 (hs y (List.mem_cons_of_mem _ hy))
    rw [List.length_erase_of_mem hx] at ih
    have := List.length_pos_of_mem hx
    simp only [List.length_cons]
    omega
theorem GrMem.len {q i : Nat} (h : GrMem w B a M G) (hq : q < 2) (hi : i ∈ G.ids) (hin : ∀ k ∈ G.lk q i, k ∈ G.ids) : (G.lk q i).length ≤ 500 :=
  Nat.le_trans (nodup_sub (h.set i hi q hq).one hin) h.few
theorem GOk.of {G G' : Gr} {ρ : Nat → Nat} (h : GOk G ρ) (hids : G'.ids = G.ids) (hl : ∀ p j, p < 2 → G'.lk p j = G.lk p j) : GOk G' ρ := by
  refine ⟨fun q hq i hi k hk => ?_, fun i hi k hk => ?_, fun i hi k hk => ?_⟩
  · rw [hids] at hi ⊢; rw [hl q i hq] at hk; exact h.inn q hq i hi k hk
  · rw [hids] at hi; rw [hl 0 i (by omega)] at hk; exact h.low i hi k hk
  · rw [hids] at hi hk; rw [hl 0 i (by omega), hl 1 k (by omega)]; exact h.dual i hi k hk
theorem GOk.bind {G G' : Gr} {ρ : Nat → Nat} (h : GOk G ρ) {i k : Nat} (hi : i ∈ G.ids) (hk : k ∈ G.ids) (hr : ρ k < ρ i) (hids : G'.ids = G.ids) (hl : ∀ p j, p < 2 → G'.lk p j = bindL G.lk i k p j) : GOk G' ρ := by
  have e0 : ∀ j, bindL G.lk i k 0 j = if j = i then G.lk 0 i ++ [k] else G.lk 0 j := fun j => by unfold bindL; simp
  have e1 : ∀ j, bindL G.lk i k 1 j = if j = k then G.lk 1 k ++ [i] else G.lk 1 j := fun j => by unfold bindL; simp
  refine ⟨fun q hq j hj x hx => ?_, fun j hj x hx => ?_, fun j hj x hx => ?_⟩
  · rw [hids] at hj ⊢
    rw [hl q j hq] at hx
    rcases (show q = 0 ∨ q = 1 by omega) with rfl | rfl
    · rw [e0] at hx
      by_cases e : j = i
      · rw [if_pos e] at hx
        rcases List.mem_append.1 hx with h1 | h1
        · exact h.inn 0 (by omega) i hi x h1
        · simp at h1; rw [h1]; exact hk
      · rw [if_neg e] at hx; exact h.inn 0 (by omega) j hj x hx
    · rw [e1] at hx
      by_cases e : j = k
      · rw [if_pos e] at hx
        rcases List.mem_append.1 hx with h1 | h1
        · exact h.inn 1 (by omega) k hk x h1
        · simp at h1; rw [h1]; exact hi
      · rw [if_neg e] at hx; exact h.inn 1 (by omega) j hj x hx
  · rw [hids] at hj
    rw [hl 0 j (by omega), e0] at hx
    by_cases e : j = i
    · rw [if_pos e] at hx
      rcases List.mem_append.1 hx with h1 | h1
      · rw [e]; exact h.low i hi x h1
      · simp at h1; rw [h1, e]; exact hr
    · rw [if_neg e] at hx; exact h.low j hj x hx
  · rw [hids] at hj hx
    rw [hl 0 j (by omega), hl 1 x (by omega), e0, e1]
    have hd := h.dual j hj x hx
    by_cases e : j = i
    · subst e
      rw [if_pos rfl]
      by_cases e2 : x = k
      · subst e2; rw [if_pos rfl]; simp
      · rw [if_neg e2]; simp [e2, hd]
    · rw [if_neg e]
      by_cases e2 : x = k
      · subst e2; rw [if_pos rfl]; simp [e, hd]
      · rw [if_neg e2]; exact hd
theorem GOk.add {G G' : Gr} {ρ : Nat → Nat} (h : GOk G ρ) {i : Nat} (hi : i ∉ G.ids) (hids : G'.ids = G.ids ++ [i]) (hl : ∀ p j, p < 2 → G'.lk p j = if j = i then [] else G.lk p j) : GOk G' ρ := by
  have hj : ∀ j, j ∈ G'.ids → j ≠ i → j ∈ G.ids := fun j hj e => by
    rw [hids] at hj
    rcases List.mem_append.1 hj with h | h
    · exact h
    · simp at h; exact absurd h e
  refine ⟨fun q hq j hj' x hx => ?_, fun j hj' x hx => ?_, fun j hj' x hx' => ?_⟩
  · rw [hl q j hq] at hx
    by_cases e : j = i
    · rw [if_pos e] at hx; cases hx
    · rw [if_neg e] at hx; rw [hids]; exact List.mem_append.2 (.inl (h.inn q hq j (hj j hj' e) x hx))
  · rw [hl 0 j (by omega)] at hx
    by_cases e : j = i
    · rw [if_pos e] at hx; cases hx
    · rw [if_neg e] at hx; exact h.low j (hj j hj' e) x hx
  · rw [hl 0 j (by omega), hl 1 x (by omega)]
    by_cases e : j = i
    · rw [if_pos e]
      by_cases e2 : x = i
      · rw [if_pos e2]; simp
      · rw [if_neg e2]
        constructor
        · intro h; cases h
        · intro h2; rw [e] at h2; exact absurd (h.inn 1 (by omega) x (hj x hx' e2) i h2) hi
    · rw [if_neg e]
      by_cases e2 : x = i
      · rw [if_pos e2]
        constructor
        · intro h2; rw [e2] at h2; exact absurd (h.inn 0 (by omega) j (hj j hj' e) i h2) hi
        · intro h; cases h
      · rw [if_neg e2]; exact h.dual j (hj j hj' e) x (hj x hx' e2)

theorem ptr_nil (w : World) : Sem.run Try.prog (binOp BinOp.neq 47 (.pointer none) (.pointer none)) w = .ok (.bool false) w := by kernel_rfl
theorem mapN_some (m : Nat) (w : World) : Sem.run Try.prog (binOp BinOp.eql 44 (.map (some m)) (.map none)) w = .ok (.bool false) w := by kernel_rfl
set_option maxHeartbeats 1000000 in
theorem gadd_c {ρ : Nat → Nat} {i : Nat} (h : GrMem w B a M G) (ho : GOk G ρ) (hi : i ∉ G.ids) (h1 : 1 ≤ i) (h2 : i ≤ 1000) (hf : G.ids.length < 500) :
    Calls Try.prog 9 #[.pointer (some ⟨a, 0, none⟩), .int .i64 (i : Int)] w (GPost B a M G (G.ids ++ [i]) G.nb (fun p j => if j = i then [] else G.lk p j) (.int .i64 0) w) := by
  obtain ⟨l, hl0, hl1, hl2, hl3⟩ := h.tab
  have hnf : fndL l (.int .i64 (i : Int)) = none := hl3 _ fun x hx e => hi ((show i = x by omega) ▸ hx)
  have hlook := hl0.look law_int Try.underlying44 (z := .pointer none) rfl (key_nat (k := i) (by omega))
  rw [hnf] at hlook
  have c0 := h.box.cell (k := 0) rfl
  have hd : decide ((i : Int) < 1) = false := decide_eq_false (by omega)
  have e1 := mapN_some M w
  have h' := Lib.hid h
  have ho' := Lib.hid ho
  have hl0' := Lib.hid (hl0.blk (old_alloc w (.cells #[.int .i64 (i : Int), .slice none 0 0, .map none, .slice none 0 0, .map none] 54) M hl0.lt))
  have hml := Lib.hid (show l.length < maxLen by rw [hl1]; unfold maxLen; omega)
  have hT0 := (TurnS.alloc (fun _ => False) w (.cells #[.int .i64 (i : Int), .slice none 0 0, .map none, .slice none 0 0, .map none] 54))
  have hfin := Lib.hid (fun w' ht hm => (h.turn hT0 (fun _ _ h => h)).add (w := w) (w' := w') (l := l) hi h1 h2 hf (fun j hj q hq x hx => ho.inn q hq j hj x hx) rfl h ht hl0'.out hl1 hl2 hl3 hm)
  clear hT0
  clear h ho hl0 hl1 hl2 hl3 hnf
  go_enter Try.func9, Try.ntmps9
  go_wp2_with (at_mapUpdate; refine wpList_map_store rfl _ _ _ rfl law_int Try.underlying44 M l rfl hl0'.out hml.out (.int .i64 (i : Int)) (pv w.heap.size) (.int .i64 (i : Int)) rfl rfl (key_nat (by omega)) ?_; intro w2 hm2 ht2)
  go_ret
  have hx := hfin.out w2 ht2.out hm2.out
  refine ⟨rfl, _, hx.1, hx.2, rfl, fun x hx => ?_, fun p j _ => rfl⟩
  show (if x = i then _ else _) = _
  rw [if_neg (show ¬ x = i from fun e => hi (e ▸ hx))]
end Go.Proofs.Ytgkmmdkagiohgaa
end

section
set_option linter.unusedVariables false
set_option linter.unusedSimpArgs false
namespace Go.Proofs.Ytgkmmdkagiohgaa
open Go.RowKit BigFrame
set_option maxRecDepth 100000

/-- y is x, or can be come to from it -/
inductive Reach (lk : Nat → List Nat) (x : Nat) : Nat → Prop where
  | refl : Reach lk x x
  | step {y z : Nat} : Reach lk x y → z ∈ lk y → Reach lk x z
theorem Reach.trans {lk : Nat → List Nat} {x y z : Nat} (h : Reach lk x y) (k : Reach lk y z) : Reach lk x z := by
  induction k with
  | refl => exact h
  | step _ hm ih => exact .step ih hm
theorem Reach.head {lk : Nat → List Nat} {x y z : Nat} (h : y ∈ lk x) (k : Reach lk y z) : Reach lk x z := (Reach.step .refl h).trans k
/-- what is found, how far it was gone along: the place, and the link -/
structure WOk (lk : Nat → List Nat) (ids : List Nat) (x0 : Nat) (F : List Nat) (p n : Nat) : Prop where
  sub : ∀ x ∈ F, x ∈ ids
  reach : ∀ x ∈ F, Reach lk x0 x
  start : x0 ∈ F
  le : p ≤ F.length
  done : ∀ j x, j < p → F[j]? = some x → ∀ y ∈ lk x, y ∈ F
  part : ∀ x, F[p]? = some x → n ≤ (lk x).length ∧ ∀ j y, j < n → (lk x)[j]? = some y → y ∈ F
  zero : p = F.length → n = 0
theorem WOk.begin {lk : Nat → List Nat} {ids : List Nat} {x0 : Nat} (h : x0 ∈ ids) : WOk lk ids x0 [x0] 0 0 :=
  ⟨fun x hx => by simp at hx; exact hx ▸ h, fun x hx => by simp at hx; exact hx ▸ .refl, by simp, Nat.zero_le _, fun j x hj => by omega, fun x _ => ⟨Nat.zero_le _, fun j y hj => by omega⟩, fun h => by simp at h⟩
variable {lk : Nat → List Nat} {ids : List Nat} {x0 : Nat} {F : List Nat} {p n : Nat}
/-- one link more -/
theorem WOk.link (h : WOk lk ids x0 F p n) (hin : ∀ i ∈ ids, ∀ k ∈ lk i, k ∈ ids) {x y : Nat} (hx : F[p]? = some x) (hy : (lk x)[n]? = some y) : WOk lk ids x0 (if y ∈ F then F else F ++ [y]) p (n + 1) := by
  have hxF : x ∈ F := List.mem_of_getElem? hx
  have hyl : y ∈ lk x := List.mem_of_getElem? hy
  have hp : p < F.length := (List.getElem?_eq_some_iff.1 hx).1
  have hn : n < (lk x).length := (List.getElem?_eq_some_iff.1 hy).1
  have hsub : ∀ z ∈ F, z ∈ (if y ∈ F then F else F ++ [y]) := fun z hz => by
    by_cases e : y ∈ F
    · rw [if_pos e]; exact hz
    · rw [if_neg e]; exact List.mem_append.2 (.inl hz)
  have hyin : y ∈ (if y ∈ F then F else F ++ [y]) := by
    by_cases e : y ∈ F
    · rw [if_pos e]; exact e
    · rw [if_neg e]; simp
  have hget : ∀ j z, j ≤ p → (if y ∈ F then F else F ++ [y])[j]? = some z → F[j]? = some z := fun j z hj hz => by
    by_cases e : y ∈ F
    · rw [if_pos e] at hz; exact hz
    · rw [if_neg e, List.getElem?_append_left (by omega)] at hz; exact hz
  have hor : ∀ z ∈ (if y ∈ F then F else F ++ [y]), z ∈ F ∨ z = y := fun z hz => by
    by_cases e : y ∈ F
    · rw [if_pos e] at hz; exact .inl hz
    · rw [if_neg e] at hz
      rcases List.mem_append.1 hz with h | h
      · exact .inl h
      · simp at h; exact .inr h
  have hlen : F.length ≤ (if y ∈ F then F else F ++ [y]).length := by
    by_cases e : y ∈ F
    · rw [if_pos e]; exact Nat.le_refl _
    · rw [if_neg e]; simp
  refine ⟨fun z hz => ?_, fun z hz => ?_, hsub _ h.start, by omega, fun j z hj hz => ?_, fun z hz => ?_, fun e => by omega⟩
  · rcases hor z hz with h1 | rfl
    · exact h.sub z h1
    · exact hin x (h.sub x hxF) _ hyl
  · rcases hor z hz with h1 | rfl
    · exact h.reach z h1
    · exact (h.reach x hxF).step hyl
  · exact fun v hv => hsub v (h.done j z hj (hget j z (by omega) hz) v hv)
  · have e : z = x := by
      have := hget p z (Nat.le_refl _) hz
      rw [hx] at this; exact (Option.some.inj this).symm
    subst e
    refine ⟨by omega, fun j v hj hv => ?_⟩
    by_cases e : j = n
    · subst e
      rw [hy] at hv
      exact Option.some.inj hv ▸ hyin
    · exact hsub v ((h.part z hx).2 j v (by omega) hv)
/-- on to the next one -/
theorem WOk.next (h : WOk lk ids x0 F p n) {x : Nat} (hx : F[p]? = some x) (hn : n = (lk x).length) : WOk lk ids x0 F (p + 1) 0 := by
  have hp : p < F.length := (List.getElem?_eq_some_iff.1 hx).1
  refine ⟨h.sub, h.reach, h.start, by omega, fun j z hj hz y hy => ?_, fun z _ => ⟨Nat.zero_le _, fun j v hj => by omega⟩, fun _ => rfl⟩
  by_cases e : j = p
  · subst e
    have e2 : z = x := by rw [hx] at hz; exact (Option.some.inj hz).symm
    subst e2
    obtain ⟨k, hk⟩ := List.getElem?_of_mem hy
    exact (h.part z hx).2 k y (by rw [hn]; exact (List.getElem?_eq_some_iff.1 hk).1) hk
  · exact h.done j z (by omega) hz y hy
/-- at the end all is found -/
theorem WOk.all (h : WOk lk ids x0 F p n) (hp : p = F.length) {x : Nat} (hx : Reach lk x0 x) : x ∈ F := by
  induction hx with
  | refl => exact h.start
  | step _ hm ih =>
    obtain ⟨k, hk⟩ := List.getElem?_of_mem ih
    exact h.done k _ (by rw [hp]; exact (List.getElem?_eq_some_iff.1 hk).1) hk _ hm

/-! ### In memory -/
def rowW (way : Nat) (sl mp : Value) (p n : Nat) : List Value := [.int .i64 (way : Int), sl, mp, .int .i64 (p : Int), .int .i64 (n : Int)]
/-- a block of a walk's -/
def Own (b : Nat) (sl mp : Value) (k : Nat) : Prop := k = b ∨ InS sl mp k
structure WkAt (w : World) (W : Nat) (nb : Nat → Nat) (b way : Nat) (sl mp : Value) (F : List Nat) (p n : Nat) : Prop where
  row : Vw w 75 b (rowW way sl mp p n)
  set : SetIs w W nb sl mp F
  lo : W ≤ b
  ap : ¬ InS sl mp b
variable {w w' : World} {W B a M b way : Nat} {nb : Nat → Nat} {sl mp : Value} {G : Gr}
theorem WkAt.turn {S : Nat → Prop} (h : WkAt w W nb b way sl mp F p n) (hT : TurnS S w w') (hs : ∀ k, Own b sl mp k → ¬ S k) : WkAt w' W nb b way sl mp F p n :=
  ⟨h.row.turnS hT (hs b (.inl rfl)), h.set.turn hT fun k hk => hs k (.inr hk), h.lo, h.ap⟩
theorem WkAt.own (h : WkAt w W nb b way sl mp F p n) : ∀ k, Own b sl mp k → W ≤ k ∧ k < w.heap.size := fun k hk => by
  rcases hk with rfl | hk
  · exact ⟨h.lo, h.row.lt⟩
  · exact h.set.block k hk
theorem WkAt.drew (h : WkAt w W nb b way sl mp F p n) (m : Nat) : WkAt (w.drewN m) W nb b way sl mp F p n := h.turn (TurnS.drew (fun _ => False) w m) fun _ _ h => h
def FromPost (W : Nat) (nb : Nat → Nat) (way x : Nat) (w : World) (e : Ending) (w' : World) : Prop := ∃ sl mp, e = .returned (pv w.heap.size) ∧ WkAt w' W nb w.heap.size way sl mp [x] 0 0 ∧ Below w.heap.size w w' ∧ ∀ k, InS sl mp k → w.heap.size ≤ k
end Go.Proofs.Ytgkmmdkagiohgaa
end

section
set_option linter.unusedVariables false
set_option linter.unusedSimpArgs false
namespace Go.Proofs.Ytgkmmdkagiohgaa
open Go.RowKit BigFrame
set_option maxRecDepth 100000
variable {w w' : World} {W B a M b way : Nat} {nb : Nat → Nat} {sl mp : Value} {G : Gr}
theorem own_one {w w' : World} {sl' mp' : Value} (h : ∀ k, InS sl' mp' k → InS (.slice none 0 0) (.map none) k ∨ w.heap.size + 1 ≤ k) : ∀ k, InS sl' mp' k → w.heap.size + 1 ≤ k := fun k hk => by
  rcases h k hk with (h | h) | h
  · cases h
  · cases h
  · exact h
set_option maxHeartbeats 1000000 in
theorem from_c (way x : Nat) (W : Nat) (hW : W ≤ w.heap.size) (h : GrMem w B a M G) (hx : x ∈ G.ids) :
    Calls Try.prog 28 #[.pointer (some ⟨G.nb x, 0, none⟩), .int .i64 (way : Int)] w (FromPost W G.nb way x w) := by
  have hpx := h.pos x hx
  have hxl := (h.row x hx).lt
  obtain ⟨w1, hw1⟩ : ∃ w1, w.alloc (.cells #[.int .i64 (way : Int), .slice none 0 0, .map none, .int .i64 0, .int .i64 0] 75) = w1 := ⟨_, rfl⟩
  have hV : Vw w1 75 w.heap.size (rowW way (.slice none 0 0) (.map none) 0 0) := by rw [← hw1]; exact Vw.alloc w (rowW way (.slice none 0 0) (.map none) 0 0) 75
  have hT : TurnS (fun _ => False) w w1 := by rw [← hw1]; exact TurnS.alloc _ w _
  have hsz : w1.heap.size = w.heap.size + 1 := by rw [← hw1]; exact size_alloc _ _
  have hnum := (h.turn hT (fun _ _ h => h)).num hx
  have hc := Lib.hid (add_c (w := w1) (B := W) (b := w.heap.size) (o := 1) (nb := G.nb) (L := []) x hV rfl rfl (SetIs.none _ _ _) (by omega) (by rintro (h | h) <;> cases h) (by omega) (by simp) hnum (by omega) (by rintro (h | h) <;> cases h))
  have hV' := Lib.hid hV
  have hT' := Lib.hid hT
  have hsz' := Lib.hid hsz
  clear hV hnum h hT hsz
  go_enter Try.func28, Try.ntmps28
  go_wp2_with fail
  refine hc.out.mono ?_
  rintro e w2 hp
  obtain ⟨rfl, hT2, hp2⟩ := hp
  obtain ⟨sl', mp', hV2, hS2, hn2⟩ := hp2.2 (by simp)
  have hfin := Lib.hid (show FromPost W G.nb way x w (.returned (pv w.heap.size)) w2 from by
    refine ⟨sl', mp', rfl, ⟨hV2, hS2, hW, fun hh => ?_⟩, ⟨hT2.os.trans hT'.out.os, hT2.tape.trans hT'.out.tape, hT2.output.trans hT'.out.output, Nat.le_trans hT'.out.size hT2.size, fun k hk => ?_⟩, fun k hk => ?_⟩
    · have := own_one (w := w) (w' := w2) (fun k hk => by have := hn2 k hk; rwa [hsz'.out] at this) _ hh
      omega
    · rw [hT2.block k (by have := hT'.out.size; omega) (by rintro (h | h | h); (omega); (cases h); (cases h))]
      exact hT'.out.block k hk (fun h => h)
    · have := own_one (w := w) (w' := w2) (fun k hk => by have := hn2 k hk; rwa [hsz'.out] at this) _ hk
      omega)
  clear hT2 hp2 hV2 hS2 hn2
  go_wp2_with fail
  go_ret
  exact hfin.out
end Go.Proofs.Ytgkmmdkagiohgaa
end

section
set_option linter.unusedVariables false
set_option linter.unusedSimpArgs false
namespace Go.Proofs.Ytgkmmdkagiohgaa
open Go.RowKit BigFrame
set_option maxRecDepth 100000
variable {w w' : World} {W B a M b way : Nat} {nb : Nat → Nat} {sl mp : Value} {G : Gr} {F : List Nat} {p n x0 : Nat}

structure StepPost (w : World) (W : Nat) (nb : Nat → Nat) (lk : Nat → List Nat) (ids : List Nat) (x0 b way : Nat) (sl mp : Value) (F : List Nat) (p n : Nat) (e : Ending) (w' : World) (r : Bool) (sl' mp' : Value) (F' : List Nat) (p' n' : Nat) : Prop where
  ret : e = .returned (.bool r)
  wk : WkAt w' W nb b way sl' mp' F' p' n'
  ok : WOk lk ids x0 F' p' n'
  turn : TurnS (Own b sl mp) w w'
  own : ∀ k, Own b sl' mp' k → Own b sl mp k ∨ w.heap.size ≤ k
  yes : r = true → p * 1000 + n < p' * 1000 + n' ∧ (F' = F ∨ ∃ y, y ∉ F ∧ F' = F ++ [y])
  no : r = false → p' = F'.length ∧ F' = F
/-- the loop: the same is found, further on it stands -/
def StepRel (w : World) (W B a M : Nat) (G : Gr) (x0 b way : Nat) (sl mp : Value) (F : List Nat) (p n : Nat) (g : Nat) (wr : World) : Prop :=
  ∃ p1 n1, F.length < p1 + g ∧ p * 1000 + n ≤ p1 * 1000 + n1 ∧ WkAt wr W G.nb b way sl mp F p1 n1 ∧ WOk (G.lk way) G.ids x0 F p1 n1 ∧ TurnS (Own b sl mp) w wr ∧ wr.heap.size = w.heap.size ∧ GrMem wr B a M G
/-- one turned in its own block alone -/
theorem WkAt.at {m : Nat} (h : WkAt w W nb b way sl mp F p n) (m' : Nat) : WkAt ((w.setCell ⟨b, 3, none⟩ (.int .i64 (m : Int))).setCell ⟨b, 4, none⟩ (.int .i64 (m' : Int))) W nb b way sl mp F m m' := by
  have hT := (TurnS.set (fun k => k = b) w rfl 3 (.int .i64 (m : Int))).trans (TurnS.set (fun k => k = b) _ rfl 4 (.int .i64 (m' : Int)))
  exact ⟨(h.row.set 3 _).set 4 _, h.set.turn hT fun k hk e => h.ap (e ▸ hk), h.lo, h.ap⟩
theorem WkAt.nx (h : WkAt w W nb b way sl mp F p n) (m' : Nat) : WkAt (w.setCell ⟨b, 4, none⟩ (.int .i64 (m' : Int))) W nb b way sl mp F p m' := by
  have hT := (TurnS.set (fun k => k = b) w rfl 4 (.int .i64 (m' : Int)))
  exact ⟨(h.row.set 4 _), h.set.turn hT fun k hk e => h.ap (e ▸ hk), h.lo, h.ap⟩
theorem add_walk {y : Nat} {e : Ending} (hk : WkAt w W nb b way sl mp F p n) (hp : AddPost W nb b 1 75 (rowW way sl mp p n) sl mp F y w e w') :
    ∃ r sl' mp', e = .returned (.bool r) ∧ WkAt w' W nb b way sl' mp' (if y ∈ F then F else F ++ [y]) p n ∧ TurnS (Own b sl mp) w w' ∧ ∀ k, Own b sl' mp' k → Own b sl mp k ∨ w.heap.size ≤ k := by
  obtain ⟨he, hT, h1, h2⟩ := hp
  by_cases hy : y ∈ F
  · rw [if_pos hy, h1 hy]
    exact ⟨_, sl, mp, he, hk, TurnS.refl _ _, fun k hk => .inl hk⟩
  · rw [if_neg hy]
    obtain ⟨sl', mp', hV, hS, hn⟩ := h2 hy
    refine ⟨_, sl', mp', he, ⟨hV, hS, hk.lo, fun hh => ?_⟩, hT, fun k hk => ?_⟩
    · rcases hn b hh with h3 | h3
      · exact hk.ap h3
      · exact absurd hk.row.lt (by omega)
    · rcases hk with rfl | hk
      · exact .inl (.inl rfl)
      · rcases hn k hk with h3 | h3
        · exact .inl (.inr h3)
        · exact .inr h3
set_option maxHeartbeats 4000000 in
theorem step_c (h : GrMem w B a M G) (hin : ∀ i ∈ G.ids, ∀ k ∈ G.lk way i, k ∈ G.ids) (hw : way < 2) (hG : ∀ k r, G.own k = some r → k < W) (hW : W ≤ w.heap.size) (hk : WkAt w W G.nb b way sl mp F p n) (ho : WOk (G.lk way) G.ids x0 F p n) :
    Calls Try.prog 30 #[.pointer (some ⟨b, 0, none⟩)] w (fun e w' => ∃ r sl' mp' F' p' n', StepPost w W G.nb (G.lk way) G.ids x0 b way sl mp F p n e w' r sl' mp' F' p' n') := by
  have hFl : F.length ≤ 500 := Nat.le_trans (nodup_sub hk.set.one ho.sub) h.few
  have hin' := Lib.hid hin
  have hG' := Lib.hid hG
  have w0 : (0 : Int) ≤ (way : Int) := by omega
  have w2 : (way : Int) < 2 := by omega
  have hk' := Lib.hid hk
  have hgo : ∀ k, (∃ r, G.own k = some r) → ¬ Own b sl mp k := fun k ⟨r, hr⟩ ho => by
    have := hG k r hr
    have := (hk.own k ho).1
    omega
  have hgo' := Lib.hid hgo
  have hrel0 := Lib.hid (show StepRel w W B a M G x0 b way sl mp F p n (F.length + 1) w from ⟨p, n, by omega, Nat.le_refl _, hk, ho, TurnS.refl _ _, rfl, h⟩)
  clear hk ho hgo hin hG h
  go_enter Try.func30, Try.ntmps30
  go_wp2_with fail
  go_loopg [3] (F.length + 1) (fun g v wr => StepRel w W B a M G x0 b way sl mp F p n g wr)
  case atStart => exact hrel0.out
  case round =>
    obtain ⟨p1, n1, hg, hpos, hk1, ho1, hT1, hsz1, hG1⟩ := hrel
    obtain ⟨ad, cap, hsv, hcap, hnil, had⟩ := hk1.set.sl.slice
    obtain ⟨fl, hfl⟩ : ∃ fl, F.length = fl := ⟨_, rfl⟩
    rw [hfl] at hsv hg hFl
    have c0 := hk1.row.cell (k := 0) rfl
    have c1 := hk1.row.cell (k := 1) rfl
    rw [hsv] at c1
    have c3 := hk1.row.cell (k := 3) rfl
    have c4 := hk1.row.cell (k := 4) rfl
    have f3 := hk1.row.frozen 3
    have f4 := hk1.row.frozen 4
    have hple := ho1.le
    rw [hfl] at hple
    by_cases hlt : p1 < fl
    · obtain ⟨x, hx⟩ : ∃ x, F[p1]? = some x := ⟨F[p1], List.getElem?_eq_getElem (by omega)⟩
      have hxi := ho1.sub x (List.mem_of_getElem? hx)
      obtain ⟨ad', hade⟩ : ∃ a', ad = some a' := by
        cases ad with
        | none => rw [hnil rfl] at hx; simp at hx
        | some a' => exact ⟨a', rfl⟩
      obtain ⟨g1, hge, _, hg1l, _, hcells⟩ := had ad' hade
      rw [hade, hge] at c1
      have cx := hcells p1 x hx
      have hsl2 := hG1.set x hxi way hw
      obtain ⟨ad2, cap2, hsv2, hcap2, hnil2, had2⟩ := hsl2.sl.slice
      have cl := (hG1.row x hxi).cell (rowN_s hw (G.s x) (G.m x))
      rw [hsv2, show 1 + 2 * way = 1 + way * 2 by omega] at cl
      obtain ⟨nl, hnl⟩ : ∃ nl, (G.lk way x).length = nl := ⟨_, rfl⟩
      rw [hnl] at cl
      have hpart := ho1.part x hx
      rw [hnl] at hpart
      have hn500 := hG1.len hw hxi (fun k hk => hin'.out x hxi k hk)
      rw [hnl] at hn500
      have hx' := Lib.hid hx
      have hk1' := Lib.hid hk1
      have ho1' := Lib.hid ho1
      have hG1' := Lib.hid hG1
      have hT1' := Lib.hid hT1
      have hsz1' := Lib.hid hsz1
      have hnlt := hpart.1
      unfold pv at cx
      clear hsl2 hcells had hx hk1 ho1 hG1 hT1 hsz1 hpart
      by_cases hnn : n1 < nl
      · obtain ⟨y, hy⟩ : ∃ y, (G.lk way x)[n1]? = some y := ⟨(G.lk way x)[n1], List.getElem?_eq_getElem (by omega)⟩
        have hyi := hin'.out x hxi y (List.mem_of_getElem? hy)
        obtain ⟨ad2', hade2⟩ : ∃ a', ad2 = some a' := by
          cases ad2 with
          | none => rw [hnil2 rfl] at hy; simp at hy
          | some a' => exact ⟨a', rfl⟩
        obtain ⟨g2, hge2, _, hg2l, _, hcells2⟩ := had2 ad2' hade2
        rw [hade2, hge2] at cl
        have cy := hcells2 n1 y hy
        unfold pv at cy
        have hy' := Lib.hid hy
        clear hy hcells2 had2 hnil2 hnil
        go_wp2_with fail
        go_quiet (fail)
        go_wp2_with fail
        go_quiet (fail)
        go_wp2_with fail
        generalize hwz : World.drewN wr _ = wz
        have b1 : wz.cell? ⟨b, 1, none⟩ = some (.slice (some ⟨g1, 0, none⟩) fl cap) := by rw [← hwz]; exact c1
        have b4 : wz.cell? ⟨b, 4, none⟩ = some (.int .i64 (n1 : Int)) := by rw [← hwz]; exact c4
        have by' : wz.cell? ⟨g2, n1, none⟩ = some (.pointer (some ⟨G.nb y, 0, none⟩)) := by rw [← hwz]; exact cy
        have hkz := Lib.hid (show WkAt wz W G.nb b way sl mp F p1 n1 by rw [← hwz]; exact hk1'.out.drew _)
        have hGz := Lib.hid (show GrMem wz B a M G by rw [← hwz]; exact hG1'.out.drew _)
        have hTz := Lib.hid (show TurnS (Own b sl mp) w wz by rw [← hwz]; exact hT1'.out.trans (TurnS.drew _ _ _))
        have hsz : Hid (wz.heap.size = w.heap.size) := Lib.hid (by rw [← hwz]; exact hsz1'.out)
        clear hwz c0 c1 c3 c4 f3 f4 cx cl cy
        go_still_tail 10, (by kernel_rfl)
        change wpList _ _ _ _ _ wz.drew
        have hkd := Lib.hid (show WkAt wz.drew W G.nb b way sl mp F p1 n1 from hkz.out.drew 1)
        have hny := (hGz.out.row y hyi).lt
        have hnW := hG'.out _ _ (hGz.out.rn y hyi)
        have hbW := hkz.out.lo
        have hpy := hGz.out.pos y hyi
        have hc := Lib.hid (add_c (w := wz.drew) (B := W) (b := b) (o := 1) (nb := G.nb) (L := F) y hkd.out.row rfl rfl hkd.out.set (by show W ≤ wz.heap.size; rw [hsz.out]; exact hW) hkd.out.ap (by omega) (by rw [hfl]; omega) (hGz.out.num hyi) (by omega) (fun hh => by have := (hkd.out.set.block _ hh).1; omega))
        have hK : Hid (∀ w3 e, AddPost W G.nb b 1 75 (rowW way sl mp p1 n1) sl mp F y wz.drew e w3 → ∃ r, e = .returned (.bool r) ∧ w3.cell? ⟨b, 4, none⟩ = some (.int .i64 (n1 : Int)) ∧ w3.frozen? ⟨b, 4, none⟩ = false ∧ ∃ r sl' mp' F' p' n', StepPost w W G.nb (G.lk way) G.ids x0 b way sl mp F p n (.returned (.bool true)) (w3.setCell ⟨b, 4, none⟩ (.int .i64 ((n1 : Int) + 1))) r sl' mp' F' p' n') := Lib.hid (by
          intro w3 e hp
          obtain ⟨r, sl', mp', he, hk3, hT3, hn3⟩ := add_walk hkd.out hp
          refine ⟨r, he, hk3.row.cell (k := 4) rfl, hk3.row.frozen 4, true, sl', mp', _, p1, n1 + 1, rfl, hk3.nx (n1 + 1), ho1'.out.link hin'.out hx'.out hy'.out, ((hTz.out.trans (TurnS.drew _ _ 1)).trans hT3).trans (TurnS.set _ _ (.inl rfl) _ _), fun k hk => ?_, fun _ => ⟨by omega, ?_⟩, fun h => by cases h⟩
          · rcases hn3 k hk with h1 | h1
            · exact .inl h1
            · exact .inr (by have e1 : wz.drew.heap.size = w.heap.size := hsz.out
                             omega)
          · by_cases e1 : y ∈ F
            · rw [if_pos e1]; exact .inl rfl
            · rw [if_neg e1]; exact .inr ⟨y, e1, rfl⟩)
        clear b1 b4 by' hkd
        go_wp2_with (go_at_call 31; refine hc.out.mono ?_; intro e w3 hp; obtain ⟨r, rfl, d4, g4, hend⟩ := hK.out w3 e hp; have hend' := Lib.hid hend; clear hend hp)
        go_ret
        exact hend'.out
      · have hne : n1 = nl := by omega
        subst hne
        obtain ⟨g, rfl⟩ : ∃ g, gk = g + 1 := ⟨gk - 1, by omega⟩
        have hend := Lib.hid (fun m => show StepRel w W B a M G x0 b way sl mp F p n g (((wr.drewN m).setCell ⟨b, 3, none⟩ (.int .i64 ((p1 : Int) + 1))).setCell ⟨b, 4, none⟩ (.int .i64 0)) from by
          have hS := (TurnS.set (fun k => k = b) (wr.drewN m) rfl 3 (.int .i64 ((p1 : Int) + 1))).trans (TurnS.set (fun k => k = b) _ rfl 4 (.int .i64 0))
          refine ⟨p1 + 1, 0, by omega, by omega, (hk1'.out.drew m).at (m := p1 + 1) 0, ho1'.out.next hx'.out hnl.symm, hT1'.out.trans ((TurnS.drew _ _ m).trans (hS.mono fun k _ e => .inl e)), ?_, (hG1'.out.drew m).turn hS fun k hr e => hgo'.out k hr (.inl e)⟩
          rw [size_set, size_set]; exact hsz1'.out)
        go_wp2_with fail
        go_quiet (fail)
        go_wp2_with fail
        go_quiet (fail)
        go_wp2_with fail
        go_roundg g
        case measure => omega
        case rel => exact hend.out _
    · have hpe : p1 = fl := by omega
      have hend := Lib.hid (fun m => show ∃ r sl' mp' F' p' n', StepPost w W G.nb (G.lk way) G.ids x0 b way sl mp F p n (.returned (.bool false)) (wr.drewN m) r sl' mp' F' p' n' from
        ⟨false, sl, mp, F, p1, n1, rfl, hk1.drew m, ho1, hT1.trans (TurnS.drew _ _ m), fun k hk => .inl hk, (fun h => by cases h), fun _ => ⟨by omega, rfl⟩⟩)
      clear hk1 ho1 hT1 hsz1 hG1
      go_wp2_with fail
      go_quiet (fail)
      go_wp2_with fail
      go_ret
      exact hend.out _
end Go.Proofs.Ytgkmmdkagiohgaa
end

section
set_option linter.unusedVariables false
set_option linter.unusedSimpArgs false
namespace Go.Proofs.Ytgkmmdkagiohgaa
open Go.RowKit BigFrame
set_option maxRecDepth 100000
variable {w w' : World} {W B a M : Nat} {G : Gr}

theorem quiet_toldM {P : Program} {f : FuncId} {args : Array Value} {w : World} {n : Nat} {v : Value} (h : Calls P f args (w.drewN n) (Told v (w.drewN n))) :
    Calls P f args (w.drewN n) fun e w'' => e = .returned v ∧ ∃ m, w'' = w.drewN m := h.mono fun _ _ ⟨he, m, hw⟩ => ⟨he, n + m, hw.trans (World.drewN_drewN _ _ _)⟩
/-- does one of two lists' last stand in the other one -/
def meetB (F H : List Nat) (x y : Nat) : Bool := decide (y ∈ F) || decide (x ∈ H)
set_option maxHeartbeats 2000000 in
theorem meets_c {b1 b2 y1 y2 : Nat} {s1 m1 s2 m2 : Value} {F H F' H' : List Nat} {p1 n1 p2 n2 x y : Nat} (h : GrMem w B a M G) (k1 : WkAt w W G.nb b1 y1 s1 m1 F p1 n1) (k2 : WkAt w W G.nb b2 y2 s2 m2 H p2 n2)
    (hF : F = F' ++ [x]) (hH : H = H' ++ [y]) (hx : x ∈ G.ids) (hy : y ∈ G.ids) (hFl : F.length ≤ 1000) (hHl : H.length ≤ 1000) :
    Calls Try.prog 29 #[.pointer (some ⟨b1, 0, none⟩), .pointer (some ⟨b2, 0, none⟩)] w (Told (.bool (meetB F H x y)) w) := by
  have px := h.pos x hx
  have py := h.pos y hy
  have nx := h.num hx
  have ny := h.num hy
  have c1 := k1.row.cell (k := 1) rfl
  have c2 := k1.row.cell (k := 2) rfl
  have d1 := k2.row.cell (k := 1) rfl
  have d2 := k2.row.cell (k := 2) rfl
  have hl1 := Lib.hid (fun m => last_c (w := w.drewN m) (b := b1) (o := 1) (nb := G.nb) c1 x F' hF (k1.drew m).set.sl (by omega))
  have hl2 := Lib.hid (fun m => last_c (w := w.drewN m) (b := b2) (o := 1) (nb := G.nb) d1 y H' hH (k2.drew m).set.sl (by omega))
  have hh1 := Lib.hid (fun m => has_c (w := w.drewN m) (b := b1) (o := 1) c2 (k1.drew m).set.mp y (by omega))
  have hh2 := Lib.hid (fun m => has_c (w := w.drewN m) (b := b2) (o := 1) d2 (k2.drew m).set.mp x (by omega))
  have hm := Lib.hid (show meetB F H x y = (decide (y ∈ F) || decide (x ∈ H)) from rfl)
  unfold pv at hl1 hl2
  clear h k1 k2 hF hH c1 c2 d1 d2
  cases ht : decide (y ∈ F)
  · rw [ht] at hh1 hm
    go_enter Try.func29, Try.ntmps29
    go_wp2_with fail
    go_big_quiet ((first
      | (go_at_call_of 38 (Value.pointer (some { block := b1, off := 1 })); exact quiet_toldM (hl1.out _))
      | (go_at_call_of 38 (Value.pointer (some { block := b2, off := 1 })); exact quiet_toldM (hl2.out _))
      | (go_at_call_of 19 (Value.pointer (some { block := b1, off := 1 })); exact quiet_told (hh1.out _))
      | (go_at_call_of 19 (Value.pointer (some { block := b2, off := 1 })); exact quiet_told (hh2.out _))))
    go_wp2_with fail
    go_ret
    exact ⟨ret_bool (by rw [hm.out]; simp), _, rfl⟩
  · rw [ht] at hh1 hm
    go_enter Try.func29, Try.ntmps29
    go_wp2_with fail
    go_big_quiet ((first
      | (go_at_call_of 38 (Value.pointer (some { block := b1, off := 1 })); exact quiet_toldM (hl1.out _))
      | (go_at_call_of 38 (Value.pointer (some { block := b2, off := 1 })); exact quiet_toldM (hl2.out _))
      | (go_at_call_of 19 (Value.pointer (some { block := b1, off := 1 })); exact quiet_told (hh1.out _))
      | (go_at_call_of 19 (Value.pointer (some { block := b2, off := 1 })); exact quiet_told (hh2.out _))))
    go_wp2_with fail
    go_ret
    exact ⟨ret_bool (by rw [hm.out]; simp), _, rfl⟩
end Go.Proofs.Ytgkmmdkagiohgaa
end
