/-
  Any act of both disks.
-/
import Derived.Test.YtmaodnidodoadaaDw
namespace Go.Proofs.Ytmaodnidodoadaa
open Go.RowKit BigFrame

/-- no more than i of anything -/
structure Cnt (d : Dk) (i : Nat) : Prop where
  waits : d.waits.length ≤ i
  logs : d.log.length ≤ i
  flush : d.flushes ≤ i
theorem Cnt.more {d : Dk} {i : Nat} (h : Cnt d i) : Cnt d (i + 1) := ⟨Nat.le_succ_of_le h.waits, Nat.le_succ_of_le h.logs, Nat.le_succ_of_le h.flush⟩
theorem Cnt.crashed {d : Dk} {i : Nat} (h : Cnt d i) (K : List Bool) : Cnt (d.crashed K) i := ⟨Nat.zero_le _, h.logs, h.flush⟩
theorem Cnt.fell {d : Dk} {i : Nat} (h : Cnt d i) : Cnt d.fell i := by
  unfold Dk.fell
  split
  · split
    · exact h.crashed _
    · exact ⟨h.waits, h.logs, h.flush⟩
  · exact h
theorem fell_n (d : Dk) : d.fell.n = d.n := by
  unfold Dk.fell
  split
  · split <;> rfl
  · rfl
theorem Cnt.wrote {d : Dk} {i : Nat} (h : Cnt d i) (a : Nat) (l : List Nat) : Cnt (d.wrote a l) (i + 1) :=
  ⟨by have := h.waits; simp [Dk.wrote]; omega, by have := h.logs; simp [Dk.wrote]; omega, Nat.le_succ_of_le h.flush⟩
theorem Cnt.flushed {d : Dk} {i : Nat} (h : Cnt d i) : Cnt d.flushed (i + 1) := ⟨Nat.zero_le _, Nat.le_succ_of_le h.logs, Nat.succ_le_succ h.flush⟩

section
variable {w0 w : World} {G H : Nat} {A : Lies} {C : RLies} {d : Dk} {ka : Option Addr} {nk kcap : Nat} {K : List Bool}
theorem keep_lt (hka : KAt w0 ka K) (h0 : 0 < K.length) {b o : Nat} (e : ka = some ⟨b, o, none⟩) : b < w0.heap.size := by
  rcases hka with h | ⟨b2, o2, e2, h⟩
  · omega
  · have := World.block_lt_of_cell? w0 _ (h 0 h0)
    rw [e2] at e
    obtain ⟨rfl, rfl⟩ : b2 = b ∧ o2 = o := by simpa using e
    exact this
theorem Both.kat (b : Both w0 w G A d H C d) (hka : KAt w0 ka K) : KAt w ka K := hka.on b.live.below (Nat.le_refl _)
theorem Both.beside' (b : Both w0 w G A d H C d) (hka : KAt w0 ka K) (hK : K.length = nk) : Beside ka nk G A := by
  intro c o h0 e
  have h1 := keep_lt hka (by omega) e
  have h2 := fun k hk => (IsDkS.over b.live.disk k hk).1
  have hf := h2 A.f (mem_foot_f G A)
  have hs := h2 A.s (mem_foot_s G A)
  have hg := h2 G (mem_foot_g G A)
  omega
theorem Both.keep {d2 : Dk} (b : Both w0 w G A d2 H C d) (hka : KAt w0 ka K) (hK : K.length = nk) (hkc : nk ≤ kcap) : KeepAt w (C.foot H ++ A.foot G) (.slice ka nk kcap) K := by
  subst hK
  refine ⟨ka, kcap, rfl, hkc, hka.on b.live.below (Nat.le_refl _), fun c o h0 e => ?_⟩
  have h1 := keep_lt hka h0 e
  refine ⟨fun hm => ?_, Nat.lt_of_lt_of_le h1 b.live.below.size⟩
  rcases List.mem_append.1 hm with hm | hm
  · have := (b.ref.over c hm).1; omega
  · have := (IsDkS.over b.live.disk c hm).1; omega
/-- some next disk, that both are then -/
def Nexts (w0 w : World) (G H : Nat) (d : Dk) (i : Nat) (act : Value) : Prop :=
  ∃ d', Cnt d' (i + 1) ∧ d'.n = d.n ∧ Calls Try.prog 7 #[.pointer (some ⟨G, 0, none⟩), .pointer (some ⟨H, 0, none⟩), act] w (GivesBo w0 G H d')
theorem next_read (b : Both w0 w G A d H C d) {i : Nat} (hc : Cnt d i) (x y : Int) (sh : Bool) (v : Value) : Nexts w0 w G H d i (.agg #[.int .i64 0, .int .i64 x, .int .i64 y, .bool sh, v]) := by
  refine ⟨d, hc.more, rfl, ?_⟩
  cases hon : d.on
  · exact done_read w0 w G A d H C b x y 4 sh v [] (by simp) (fun w' b' => read_off w' _ G A d x b'.live.disk hon) (fun w' b' => rread_off w' _ H C _ d x b'.ref hon)
  · by_cases hx : x < 0 ∨ (d.n : Int) ≤ x
    · exact done_read w0 w G A d H C b x y 2 sh v [] (by simp) (fun w' b' => read_far w' _ G A d x b'.live.disk hon hx) (fun w' b' => rread_far w' _ H C _ d x b'.ref hon hx)
    · obtain ⟨a, rfl⟩ : ∃ a : Nat, x = (a : Int) := ⟨x.toNat, by omega⟩
      have ha : a < d.n := by omega
      exact done_read w0 w G A d H C b a y 0 sh v (d.seen a) (by rw [b.ref.fine.seen ha]; omega) (fun w' b' => read_go w' _ G A d a b'.live.disk hon ha) (fun w' b' => rread_go w' _ H C _ d a b'.ref hon ha)
theorem next_flush (b : Both w0 w G A d H C d) {i : Nat} (hi : i ≤ 900) (hc : Cnt d i) (x y : Int) (sh : Bool) (v : Value) : Nexts w0 w G H d i (.agg #[.int .i64 2, .int .i64 x, .int .i64 y, .bool sh, v]) := by
  cases hon : d.on
  · exact ⟨d, hc.more, rfl, done_flush w0 w G A d d H C b x y 4 sh v (fun w B G A h => flush_off w B G A d h hon) (fun w B G A R h => rflush_off w B G A R d h hon)⟩
  · cases hf : d.fall
    · have hl : d.fell.flushes < 1000 := by have := hc.fell.flush; omega
      exact ⟨d.fell.flushed, hc.fell.flushed, fell_n d, done_flush w0 w G A d _ H C b x y 0 sh v (fun w B G A h => flush_go w B G A d h hon hf hl) (fun w B G A R h => rflush_go w B G A R d h hon hf hl)⟩
    · exact ⟨d.fell, hc.fell.more, fell_n d, done_flush w0 w G A d _ H C b x y 4 sh v (fun w B G A h => flush_fall w B G A d h hon hf) (fun w B G A R h => rflush_fall w B G A R d h hon hf)⟩
theorem next_crash (b : Both w0 w G A d H C d) {i : Nat} (hc : Cnt d i) (x y : Int) (sh : Bool) (hK : K.length = nk) (hkc : nk ≤ kcap) (hkb : nk ≤ 1000) (hka : KAt w0 ka K) : Nexts w0 w G H d i (.agg #[.int .i64 4, .int .i64 x, .int .i64 y, .bool sh, .slice ka nk kcap]) :=
  ⟨d.crashed K, (hc.crashed K).more, rfl, done_crash w0 w G A d _ H C b x y sh ka nk kcap
    (fun w' A' b' => crash_any w' _ G A' d b'.live.disk ka nk kcap K hK hkc hkb (b'.kat hka) (b'.beside' hka hK))
    (fun w' _ b' => rcrash_any w' _ H C _ d b'.ref ka nk kcap K hK hkb (b'.keep hka hK hkc))⟩
theorem next_arm (b : Both w0 w G A d H C d) {i : Nat} (hc : Cnt d i) (x y : Int) (hy : y ≤ 9223372036854775807) (sh : Bool) (hK : K.length = nk) (hkb : nk ≤ 1000) (hka : KAt w0 ka K) (hnil : ka = none → kcap = 0) : Nexts w0 w G H d i (.agg #[.int .i64 3, .int .i64 x, .int .i64 y, .bool sh, .slice ka nk kcap]) := by
  cases hon : d.on
  · exact ⟨d, hc.more, rfl, done_arm w0 w G A d d H C b x y 4 sh ka nk kcap (fun w' A' b' => arm_off w' _ G A' d y _ b'.live.disk hon) (fun w' _ b' => rarm_off w' _ H C _ d y _ b'.ref hon)⟩
  · by_cases hneg : y < 0
    · exact ⟨d, hc.more, rfl, done_arm w0 w G A d d H C b x y 2 sh ka nk kcap (fun w' A' b' => arm_neg w' _ G A' d y _ b'.live.disk hon hneg) (fun w' _ b' => rarm_neg w' _ H C _ d y _ b'.ref hon hneg)⟩
    · obtain ⟨af, rfl⟩ : ∃ a : Nat, y = (a : Int) := ⟨y.toNat, by omega⟩
      have haf : af < 9223372036854775808 := by omega
      exact ⟨d.armed af K, ⟨Nat.le_succ_of_le hc.waits, Nat.le_succ_of_le hc.logs, Nat.le_succ_of_le hc.flush⟩, rfl, done_arm w0 w G A d _ H C b x af 0 sh ka nk kcap
        (fun w' A' b' => arm_any w' _ G A' d b'.live.disk b'.base hon af haf ka nk kcap K hK hkb (b'.kat hka) hnil)
        (fun w' _ b' => rarm_go w' _ H C _ d b'.ref hon af haf ka nk kcap K hK hkb (hka.on b'.live.below (Nat.le_refl _)) hnil)⟩
theorem next_write (b : Both w0 w G A d H C d) {i : Nat} (hi : i ≤ 900) (hc : Cnt d i) (x y : Int) (sh : Bool) (v : Value) : Nexts w0 w G H d i (.agg #[.int .i64 1, .int .i64 x, .int .i64 y, .bool sh, v]) := by
  cases hon : d.on
  · exact ⟨d, hc.more, rfl, done_write w0 w G A d d H C b x y 4 sh v _ _ rfl rfl (fun w' g b' _ _ => write_off w' _ G A d x _ b'.live.disk hon) (fun w' A' g cap b' _ _ => rwrite_off w' _ H C _ d x _ b'.ref hon)⟩
  · by_cases hx : x < 0 ∨ (d.n : Int) ≤ x
    · exact ⟨d, hc.more, rfl, done_write w0 w G A d d H C b x y 2 sh v _ _ rfl rfl (fun w' g b' _ _ => write_far w' _ G A d x _ b'.live.disk hon hx) (fun w' A' g cap b' _ _ => rwrite_far w' _ H C _ d x _ _ _ b'.ref hon hx)⟩
    · have hx2 : 0 ≤ x ∧ x < (d.n : Int) := by omega
      cases sh
      · cases hf : d.fall
        · obtain ⟨a, rfl⟩ : ∃ a : Nat, x = (a : Int) := ⟨x.toNat, by omega⟩
          have ha : a < d.n := by omega
          have hm1 : d.fell.waits.length < 1000 := by have := hc.fell.waits; omega
          have hm2 : d.fell.log.length < 1000 := by have := hc.fell.logs; omega
          exact ⟨d.fell.wrote a (fillN y 128), hc.fell.wrote _ _, fell_n d, done_write w0 w G A d _ H C b a y 0 false v _ _ rfl rfl
            (fun w' g b' ho hx => write_go w' _ G A d a g 0 (128 + 3) _ b'.live.disk hon ha (fillN_length _ _) (by omega) hx ho hf hm1 hm2)
            (fun w' A' g cap b' ho hx => rwrite_go w' _ H C _ d a g 0 cap _ b'.ref b'.base hon hf ha (fillN_length _ _) hx ho hm1 hm2 (by rw [fell_n]; exact ha))⟩
        · exact ⟨d.fell, hc.fell.more, fell_n d, done_write w0 w G A d _ H C b x y 4 false v _ _ rfl rfl
            (fun w' g b' _ _ => write_fall w' _ G A d x _ _ b'.live.disk hon hx2 hf) (fun w' A' g cap b' _ _ => rwrite_fall w' _ H C _ d x _ _ b'.ref hon hx2 hf)⟩
      · exact ⟨d, hc.more, rfl, done_write w0 w G A d d H C b x y 2 true v _ _ rfl rfl (fun w' g b' _ _ => write_short w' _ G A d x _ _ _ b'.live.disk hon hx2 (by decide)) (fun w' A' g cap b' _ _ => rwrite_short w' _ H C _ d x _ _ _ b'.ref hon hx2 (by decide))⟩
theorem next_c (b : Both w0 w G A d H C d) {i : Nat} (hi : i ≤ 900) (hc : Cnt d i) (k x y : Int) (hy : y ≤ 9223372036854775807) (sh : Bool) (hK : K.length = nk) (hkc : nk ≤ kcap) (hkb : nk ≤ 1000) (hka : KAt w0 ka K) (hnil : ka = none → kcap = 0) :
    Nexts w0 w G H d i (.agg #[.int .i64 k, .int .i64 x, .int .i64 y, .bool sh, .slice ka nk kcap]) := by
  by_cases h0 : k = 0
  · subst h0; exact next_read b hc x y sh _
  by_cases h1 : k = 1
  · subst h1; exact next_write b hi hc x y sh _
  by_cases h2 : k = 2
  · subst h2; exact next_flush b hi hc x y sh _
  by_cases h3 : k = 3
  · subst h3; exact next_arm b hc x y hy sh hK hkb hka hnil
  by_cases h4 : k = 4
  · subst h4; exact next_crash b hc x y sh hK hkc hkb hka
  by_cases h5 : k = 5
  · subst h5
    exact ⟨d.booted, ⟨Nat.le_succ_of_le hc.waits, Nat.le_succ_of_le hc.logs, Nat.le_succ_of_le hc.flush⟩, rfl, done_boot w0 w G A d H C b x y sh _⟩
  · exact ⟨d, hc.more, rfl, done_none w0 w G A d H C b k x y sh _ (by omega)⟩
end
end Go.Proofs.Ytmaodnidodoadaa
