/-
  What is put is got: each call.
-/
import Derived.Test.YtedbfehoeflmgaaClg
set_option linter.unusedVariables false
set_option linter.unusedSimpArgs false
namespace Go.Proofs.Ytedbfehoeflmgaa
open Go.RowKit BigFrame
set_option maxRecDepth 100000

section
variable {w0 w w' : World} {A A' : Lies} {d d' : Dk} {c c' : Ck} {C G m u t : Nat} {cur cur' : Nat → List Nat} {H H' : List Sx}
structure Sv (w0 w : World) (C G m u t : Nat) (cur : Nat → List Nat) (A : Lies) (d : Dk) (c : Ck) (H : List Sx) : Prop where
  cv : Cv w0 w A d c C G m u H
  see : SeeIn 8 d cur H
  on : d.on = true
  set : d.set = false
  n : d.n = 8
  wt : d.waits.length ≤ t
  lg : d.log.length ≤ t
/-- what is dirty there was dirty here -/
def DirtyIn (H' H : List Sx) : Prop := ∀ y ∈ H', y.dirty = true → ∃ z ∈ H, z.pos = y.pos ∧ z.dirty = true
theorem Sv.read (h : Sv w0 w C G m u t cur A d c H) (hb : Below w.heap.size w w') : Sv w0 w' C G m u t cur A d c H := ⟨h.cv.read hb, h.see, h.on, h.set, h.n, h.wt, h.lg⟩
theorem Sv.put_c (h : Sv w0 w C G m u t cur A d c H) (hm : m ≤ 100000) (hu : u < 100000) {s : Nat} (hs : s < 8) {a : Int} (ha : a = (s : Int)) {l : List Nat} {bb bo bcap : Nat} (hl : l.length = 128) (hbc : 128 ≤ bcap) (hx : BAt w (some ⟨bb, bo, none⟩) l) (hoff : bb < w.heap.size ∧ bb ∉ foots A c) (h1 : cur' s = l) (h2 : ∀ t, t ≠ s → cur' t = cur t) :
    Calls Try.prog 22 #[.pointer (some ⟨C, 0, none⟩), .int .i64 a, .slice (some ⟨bb, bo, none⟩) 128 bcap] w fun e w' => ∃ c' H', e = .returned (.int .i64 0) ∧ Sv w0 w' C G m (u + 1) t cur' A d c' H' ∧ (∃ x ∈ H', x.pos = s ∧ x.dirty = true) ∧ Step w (foots A c) w' (foots A c') := by
  have R : ∀ b, SeeIn 8 d cur' (trim m (nw H ⟨b, s, l, u + 1, true, false⟩)) ∧ ∃ x ∈ trim m (nw H ⟨b, s, l, u + 1, true, false⟩), x.pos = s ∧ x.dirty = true := fun b =>
    ⟨(h.see.nw (x := ⟨b, s, l, u + 1, true, false⟩) hs rfl h1.symm (fun e => by cases e) h2).trim (nw_apart h.cv.pos _) m, _, dropN_keep (nw_mem.2 (.inr rfl)) (by unfold Sx.free; simp), rfl, rfl⟩
  cases hg : get H (s : Int) with
  | none =>
    refine (putv_miss h.cv hm hu hg (by rw [h.n]; exact hs) ha hl hbc hx hoff).mono ?_
    rintro e w' ⟨c', b, rfl, hC, hS⟩
    exact ⟨c', _, rfl, ⟨hC, (R b).1, h.on, h.set, h.n, h.wt, h.lg⟩, (R b).2, hS⟩
  | some x =>
    obtain ⟨hxm, hp⟩ := get_some hg
    have hps : x.pos = s := by omega
    refine (putv_hit h.cv hm hu hxm (by rw [h.n, hps]; exact hs) (by rw [ha, hps]) hl hbc hx hoff).mono ?_
    rw [hps, h.see.pin x hxm]
    rintro e w' ⟨c', b, rfl, hC, hS⟩
    exact ⟨c', _, rfl, ⟨hC, (R b).1, h.on, h.set, h.n, h.wt, h.lg⟩, (R b).2, hS⟩
theorem Sv.get_c (h : Sv w0 w C G m u t cur A d c H) (hm : m ≤ 100000) (hu : u < 100000) {s : Nat} (hs : s < 8) {a : Int} (ha : a = (s : Int)) :
    Calls Try.prog 26 #[.pointer (some ⟨C, 0, none⟩), .int .i64 a] w fun e w' => ∃ v c' H', e = .returned (.tuple #[v, .int .i64 0]) ∧ Sv w0 w' C G m (u + 1) t cur A d c' H' ∧ OwnB w' w.heap.size v (cur s) ∧ OffC A c' v ∧ Step w (foots A c) w' (foots A c') ∧ DirtyIn H' H := by
  cases hg : get H (s : Int) with
  | none =>
    refine (getv_miss h.cv hm hu hg h.on (by rw [h.n]; exact hs) ha).mono ?_
    rw [h.see.out s hs hg]
    rintro e w' ⟨v, c', b, rfl, hC, ho, hf, hS⟩
    refine ⟨v, c', _, rfl, ⟨hC, (h.see.nw (x := ⟨b, s, cur s, u + 1, false, false⟩) hs rfl rfl (fun _ => h.see.out s hs hg) (fun _ _ => rfl)).trim (nw_apart h.cv.pos _) m, h.on, h.set, h.n, h.wt, h.lg⟩, ho, hf, hS, fun y hy hd => ?_⟩
    rcases nw_mem.1 ((trim_sub _ _).subset hy) with ⟨h1, _⟩ | e
    · exact ⟨y, h1, rfl, hd⟩
    · rw [e] at hd; cases hd
  | some x =>
    obtain ⟨hxm, hp⟩ := get_some hg
    have hps : x.pos = s := by omega
    refine (getv_hit h.cv hm hu hxm (by rw [ha, hps])).mono ?_
    rw [h.see.has x hxm, h.see.pin x hxm, hps]
    rintro e w' ⟨v, c', b, rfl, hC, ho, hf, hS⟩
    refine ⟨v, c', _, rfl, ⟨hC, (h.see.nw (x := ⟨b, s, cur s, u + 1, x.dirty, false⟩) hs rfl rfl (fun hd => by have := h.see.cln x hxm hd; rw [hps] at this; exact this) (fun _ _ => rfl)).trim (nw_apart h.cv.pos _) m, h.on, h.set, h.n, h.wt, h.lg⟩, ho, hf, hS, fun y hy hd => ?_⟩
    rcases nw_mem.1 ((trim_sub _ _).subset hy) with ⟨h1, _⟩ | e
    · exact ⟨y, h1, rfl, hd⟩
    · rw [e] at hd ⊢
      exact ⟨x, hxm, hps, hd⟩
theorem Sv.clean_c (h : Sv w0 w C G m u t cur A d c H) (hm : m ≤ 100000) (ht : t < 1000) {s : Nat} (hs : s < 8) {a : Int} (ha : a = (s : Int)) :
    Calls Try.prog 24 #[.pointer (some ⟨C, 0, none⟩), .int .i64 a] w fun e w' => ∃ A' d' c' H' r, e = .returned (.int .i64 r) ∧ Sv w0 w' C G m u (t + 1) cur A' d' c' H' ∧ Step w (foots A c) w' (foots A' c') ∧ (r = 0 → d'.seen s = cur s) ∧ ((∃ x ∈ H, x.pos = s) → r = 0) ∧ DirtyIn H' H ∧ ∀ y ∈ H', y.pos = s → y.dirty = false := by
  cases hg : get H (s : Int) with
  | none =>
    refine (cleanv_none h.cv (a := a) ⟨by omega, by omega⟩ (by rw [ha]; exact hg)).mono ?_
    rintro e w' ⟨rfl, rfl⟩
    exact ⟨A, d, c, H, 5, rfl, ⟨h.cv, h.see, h.on, h.set, h.n, Nat.le_succ_of_le h.wt, Nat.le_succ_of_le h.lg⟩, Step.refl _ _, fun e => (by cases e), fun ⟨x, hx, hp⟩ => absurd (by rw [hp]) (get_none hg x hx), fun y hy hd => ⟨y, hy, rfl, hd⟩, fun y hy hp => absurd (by rw [hp]) (get_none hg y hy)⟩
  | some x =>
    obtain ⟨hxm, hp⟩ := get_some hg
    have hps : x.pos = s := by omega
    cases hd : x.dirty with
    | false =>
      refine (cleanv_not h.cv hxm hd (by rw [ha, hps])).mono ?_
      rintro e w' ⟨rfl, rfl⟩
      refine ⟨A, d, c, H, 0, rfl, ⟨h.cv, h.see, h.on, h.set, h.n, Nat.le_succ_of_le h.wt, Nat.le_succ_of_le h.lg⟩, Step.refl _ _, fun _ => ?_, fun _ => rfl, fun y hy hd => ⟨y, hy, rfl, hd⟩, fun y hy hp2 => ?_⟩
      · have := h.see.cln x hxm hd
        rw [hps] at this; exact this
      · rw [h.cv.pos.uniq hy hxm (by omega)]; exact hd
    | true =>
      refine (cleanv_go h.cv hm hxm hd h.on h.set (by rw [h.n, hps]; exact hs) (by have := h.wt; omega) (by have := h.lg; omega) (by rw [ha, hps])).mono ?_
      rintro e w' ⟨A', c', rfl, hC, hS⟩
      have hcl := h.see.clean h.cv.pos h.cv.srt hxm
      have hap : Apart (putS (x.withD false) H) := by
        show ((putS (x.withD false) H).map Sx.pos).Nodup
        rw [put_map (x := x.withD false) Sx.pos h.cv.srt hxm rfl rfl]; exact h.cv.pos
      have hm2 : ∀ y, y ∈ trim m (putS (x.withD false) H) → (y = x.withD false) ∨ (y ∈ H ∧ y.pos ≠ s) := fun y hy => by
        rcases put_mem ((trim_sub _ _).subset hy) with e | ⟨hy, hne⟩
        · exact .inl e
        · exact .inr ⟨hy, fun e => hne (by rw [h.cv.pos.uniq hy hxm (e.trans hps.symm)]; rfl)⟩
      refine ⟨A', _, c', _, 0, rfl, ⟨hC, hcl.trim hap m, h.on, h.set, h.n, ?_, ?_⟩, hS, fun _ => ?_, fun _ => rfl, fun y hy hdy => ?_, fun y hy hp2 => ?_⟩
      · show (d.waits ++ [(x.pos, x.b)]).length ≤ t + 1
        rw [List.length_append]; have := h.wt; simp; omega
      · show (d.log ++ [x.pos]).length ≤ t + 1
        rw [List.length_append]; have := h.lg; simp; omega
      · rw [seen_wrote3, hps, updF_same, h.see.has x hxm, hps]
      · rcases hm2 y hy with e | ⟨h1, _⟩
        · rw [e] at hdy; cases hdy
        · exact ⟨y, h1, rfl, hdy⟩
      · rcases hm2 y hy with e | ⟨_, h2⟩
        · rw [e]; rfl
        · exact absurd hp2 h2
theorem Sv.drop_c (h : Sv w0 w C G m u t cur A d c H) {a : Int} (ha : -1000000 ≤ a ∧ a ≤ 1000000) :
    Calls Try.prog 25 #[.pointer (some ⟨C, 0, none⟩), .int .i64 a] w fun e w' => ∃ A' c' H' r, e = .returned (.int .i64 r) ∧ Sv w0 w' C G m u t cur A' d c' H' ∧ Step w (foots A c) w' (foots A' c') := by
  refine (dropv h.cv ha rfl).mono ?_
  rintro e w' ⟨A', c', rfl, hC, hS⟩
  exact ⟨A', c', _, _, rfl, ⟨hC, h.see.drop h.cv.pos _, h.on, h.set, h.n, h.wt, h.lg⟩, hS⟩
theorem Sv.start {w1 : World} (h : Cv w0 w A (Dk.fresh 8 fun _ => zs 128) c C G m 0 []) : Sv w0 w C G m 0 0 (curL (fun _ => 0) fun _ => false) A (Dk.fresh 8 fun _ => zs 128) c [] :=
  ⟨h, ⟨fun x hx => (by cases hx), fun x hx => (by cases hx), fun x hx => (by cases hx), fun x hx => (by cases hx), fun s _ _ => rfl⟩, rfl, rfl, rfl, Nat.le_refl _, Nat.le_refl _⟩

/-! ### Beside two variables -/
theorem CkL.set {g k : Nat} (h : CkL w0 w A d c) (hg : g ∉ foots A c) (hb : w0.heap.size ≤ g) (v : Value) : CkL w0 (w.setCell ⟨g, k, none⟩ v) A d c := by
  have hs : ∀ j, j ∈ foots A c → (w.setCell ⟨g, k, none⟩ v).heap[j]? = w.heap[j]? := fun j hj => heap_set_other _ ⟨g, k, none⟩ _ (show j ≠ g from fun e => hg (e ▸ hj))
  exact ⟨h.below.setCell (p := ⟨g, k, none⟩) hb v, ⟨IsDkS.carry h.ck.dk (by rw [size_set]; exact Nat.le_refl _) fun j hj => hs j (List.mem_append_left _ hj), ⟨h.ck.n.mem.carry fun j hj => hs j (List.mem_append_right _ hj), h.ck.n.ok, h.ck.n.one⟩, h.ck.ap⟩⟩
theorem Sv.put2 {g k : Nat} (h : Sv w0 w C G m u t cur A d c H) (hg : g ∉ foots A c) (hb : w0.heap.size ≤ g) (v : Value) : Sv w0 (w.setCell ⟨g, k, none⟩ v) C G m u t cur A d c H :=
  ⟨⟨h.cv.l.set hg hb v, h.cv.C, h.cv.G, h.cv.most, h.cv.uses, h.cv.H⟩, h.see, h.on, h.set, h.n, h.wt, h.lg⟩
structure VarsAt (w0 w : World) (F : List Nat) (g1 g2 : Nat) (f : Nat → Nat) (h : Nat → Bool) : Prop where
  v1 : Vw w 50 g1 (lsv f)
  v2 : Vw w 51 g2 (hsv h)
  o1 : g1 ∉ F
  o2 : g2 ∉ F
  b1 : w0.heap.size ≤ g1
  b2 : w0.heap.size ≤ g2
  ne : g1 ≠ g2
variable {F F' : List Nat} {g1 g2 : Nat} {f : Nat → Nat} {hh : Nat → Bool}
theorem VarsAt.step (h : VarsAt w0 w F g1 g2 f hh) (hs : Step w F w' F') : VarsAt w0 w' F' g1 g2 f hh :=
  ⟨by unfold Vw; rw [hs.block _ h.v1.lt h.o1]; exact h.v1, by unfold Vw; rw [hs.block _ h.v2.lt h.o2]; exact h.v2, fun e => by rcases hs.foot _ e with e | e; exact h.o1 e; have := h.v1.lt; omega, fun e => by rcases hs.foot _ e with e | e; exact h.o2 e; have := h.v2.lt; omega, h.b1, h.b2, h.ne⟩
theorem VarsAt.on (h : VarsAt w0 w F g1 g2 f hh) (hb : Below w.heap.size w w') : VarsAt w0 w' F g1 g2 f hh := h.step (.of_below hb F)
theorem VarsAt.set (h : VarsAt w0 w F g1 g2 f hh) (s i : Nat) : VarsAt w0 ((w.setCell ⟨g1, s, none⟩ (.int .i64 (i : Int))).setCell ⟨g2, s, none⟩ (.bool true)) F g1 g2 (updN f s i) (updN hh s true) := by
  refine ⟨?_, ?_, h.o1, h.o2, h.b1, h.b2, h.ne⟩
  · have h1 := h.v1.set s (.int .i64 (i : Int))
    rw [lsv_set] at h1
    unfold Vw at h1 ⊢
    rw [heap_set_other _ ⟨g2, s, none⟩ _ h.ne]; exact h1
  · have h1 : Vw (w.setCell ⟨g1, s, none⟩ (.int .i64 (i : Int))) 51 g2 (hsv hh) := by
      unfold Vw
      rw [heap_set_other _ ⟨g1, s, none⟩ _ (Ne.symm h.ne)]; exact h.v2
    have h2 := h1.set s (.bool true)
    rw [hsv_set] at h2
    exact h2
end
end Go.Proofs.Ytedbfehoeflmgaa
