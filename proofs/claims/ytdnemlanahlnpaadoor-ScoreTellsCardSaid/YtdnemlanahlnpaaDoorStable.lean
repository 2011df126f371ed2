/-
  The stable sort of the library, for up to 40 places.
-/
import Derived.Test.YtdnemlanahlnpaaDoorSymC
namespace Go.Proofs.YtdnemlanahlnpaaDoor
open Go.RowKit Fl

theorem sym_all : ∀ N, SymSaid N
  | 0 => fun g c n cap a m b xs D w hN _ _ h1 h2 _ _ _ _ _ _ _ => by omega
  | N + 1 => fun g c n cap a m b xs D w hN hn hl h1 h2 hbn hD hE hr hs hL hR => by
    by_cases e1 : m = a + 1
    · subst e1
      exact symMerge_one g c n cap a b xs D w hn hl h2 hbn hD hE hr hs hR
    · by_cases e2 : b = m + 1
      · subst e2
        exact symMerge_last g c n cap a m xs D w hn hl (by omega) hbn hD hE hr hs hL
      · exact symMerge_mid (sym_all N) g c n cap a m b xs D w hN hn hl (by omega) (by omega) hbn hD hE hr hs hL hR
theorem symMerge_any (g c n cap a m b : Nat) (xs : List Nat) (D : Nat → Int) (w : World) (hn : n ≤ 1000) (hl : xs.length ≤ 1000) (h1 : a < m) (h2 : m < b) (hbn : b ≤ n) (hD : At g n D w) (hE : Env g c xs w) (hr : ∀ p, p < n → 0 ≤ D p ∧ D p < xs.length)
    (hs : Stab (kf xs) D a b) (hL : LS (kf xs) D a m) (hR : LS (kf xs) D m b) :
    Calls Tryd.prog 41 #[.slice (some ⟨g, 0, none⟩) n cap, .int .i64 a, .int .i64 m, .int .i64 b, .func (.func 30) #[] #[.pointer (some ⟨c, 0, none⟩)]] w (SortPost g n a b xs D w) :=
  sym_all (b - a) g c n cap a m b xs D w (Nat.le_refl _) hn hl h1 h2 hbn hD hE hr hs hL hR

theorem Stab.sub {K : Int → Int} {D : Nat → Int} {a b a' b' : Nat} (h : Stab K D a b) (h1 : a ≤ a') (h2 : b' ≤ b) : Stab K D a' b' := fun p q p1 p2 p3 => h p q (by omega) p2 (by omega)

/-- behind a second stretch that was sorted -/
theorem stab_block {K : Int → Int} {D E : Nat → Int} {c n : Nat} (h : Stab K D 0 n) (hm : Moves c n D E) (_ : LS K D 0 c) (hs : LS K E c n) : Stab K E 0 n := by
  intro p q h1 h2 h3 hk
  by_cases hp : c ≤ p
  · rcases hs p q hp h2 h3 with h4 | h4
    · omega
    · exact h4.2
  · have ep := hm.1 p (.inl (by omega))
    by_cases hq : c ≤ q
    · obtain ⟨r, r1, r2, e⟩ := hm.2 q hq h3
      rw [ep, e] at hk ⊢
      exact h p r h1 (by omega) r2 hk
    · have eq := hm.1 q (.inl (by omega))
      rw [ep, eq] at hk ⊢
      exact h p q h1 h2 (by omega) hk

set_option maxHeartbeats 1000000 in
theorem stable_lt20 (g c n cap : Nat) (xs : List Nat) (D : Nat → Int) (w : World) (h20 : n < 20) (hl : xs.length ≤ 1000) (hD : At g n D w) (hE : Env g c xs w) (hr : ∀ p, p < n → 0 ≤ D p ∧ D p < xs.length) (hs : Stab (kf xs) D 0 n) :
    Calls Tryd.prog 37 #[.slice (some ⟨g, 0, none⟩) n cap, .int .i64 n, .func (.func 30) #[] #[.pointer (some ⟨c, 0, none⟩)]] w (SortPost g n 0 n xs D w) := by
  have hD' := Lib.hid hD
  have hE' := Lib.hid hE
  have hs' := Lib.hid hs
  have hr' := Lib.hid hr
  have e1 : ¬ ((20 : Int) ≤ (n : Int)) := by omega
  have e2 : ¬ ((20 : Int) < (n : Int)) := by omega
  clear hD hE hs hr
  go_enter Tryd.func37, Tryd.ntmps37
  go_wp2_with fail
  refine wp_loop_rounds 1 ?_
  rw [rounds_succ]
  go_wp2_with fail
  refine (insertion_any g c n cap 0 n xs D _ (by omega) hl (by omega) (Nat.le_refl _) hD'.out hE'.out hr'.out hs'.out).mono ?_
  rintro e w1 ⟨rfl, C, hA, hO, hM, hL⟩
  have hA' := Lib.hid hA
  have hO' := Lib.hid hO
  have hM' := Lib.hid hM
  have hL' := Lib.hid hL
  clear hA hO hM hL
  go_wp2_with fail
  refine wp_loop_rounds 1 ?_
  rw [rounds_succ]
  go_wp2_with fail
  go_end0
  exact ⟨rfl, C, hA'.out, hO'.out, hM'.out, hL'.out⟩

set_option maxHeartbeats 2000000 in
theorem stable_mid (g c n cap : Nat) (xs : List Nat) (D : Nat → Int) (w : World) (h20 : 20 ≤ n) (h40 : n < 40) (hl : xs.length ≤ 1000) (hD : At g n D w) (hE : Env g c xs w) (hr : ∀ p, p < n → 0 ≤ D p ∧ D p < xs.length) (hs : Stab (kf xs) D 0 n) :
    Calls Tryd.prog 37 #[.slice (some ⟨g, 0, none⟩) n cap, .int .i64 n, .func (.func 30) #[] #[.pointer (some ⟨c, 0, none⟩)]] w (SortPost g n 0 n xs D w) := by
  have hD' := Lib.hid hD
  have hE' := Lib.hid hE
  have hs' := Lib.hid hs
  have hr' := Lib.hid hr
  have e1 : (20 : Int) ≤ (n : Int) := by omega
  have e2 : ¬ ((40 : Int) ≤ (n : Int)) := by omega
  have e3 : ¬ ((40 : Int) < (n : Int)) := by omega
  clear hD hE hs hr
  go_enter Tryd.func37, Tryd.ntmps37
  go_wp2_with fail
  refine wp_loop_rounds 2 ?_
  rw [rounds_succ]
  go_wp2_with fail
  refine (insertion_any g c n cap 0 20 xs D _ (by omega) hl (by omega) h20 hD'.out hE'.out hr'.out (hs'.out.sub (Nat.le_refl _) h20)).mono ?_
  rintro e w1 ⟨rfl, C, hA, hO, hM, hL⟩
  have hA' := Lib.hid hA
  have hO' := Lib.hid hO
  have hM' := Lib.hid hM
  have hL' := Lib.hid hL
  have hS1 := Lib.hid (hs'.out.moved hM'.out hL'.out)
  have hr1 := Lib.hid (hM'.out.rng h20 hr'.out)
  clear hA hO hM hL
  go_wp2_with fail
  rw [rounds_succ]
  go_wp2_with fail
  refine (insertion_any g c n cap 20 n xs C _ (by omega) hl h20 (Nat.le_refl _) hA'.out (hE'.out.on hO'.out) hr1.out (hS1.out.sub (Nat.zero_le _) (Nat.le_refl _))).mono ?_
  rintro e w2 ⟨rfl, C2, hA2, hO2, hM2, hL2⟩
  have hA2' := Lib.hid hA2
  have hO2' := Lib.hid (hO'.out.trans hO2)
  have hM2' := Lib.hid hM2
  have hL2' := Lib.hid hL2
  have hS2 := Lib.hid (stab_block hS1.out hM2'.out hL'.out hL2'.out)
  have hr2 := Lib.hid (hM2'.out.rng (Nat.le_refl _) hr1.out)
  have hLa := Lib.hid (show LS (kf xs) C2 0 20 from hL'.out.congr fun p _ p2 => hM2'.out.1 p (.inl p2))
  have hMM := Lib.hid (show Moves 0 n D C2 from (hM'.out.wider (Nat.le_refl _) h20).trans (hM2'.out.wider (Nat.zero_le _) (Nat.le_refl _)))
  clear hA2 hO2 hM2 hL2
  by_cases h : 20 < n
  · have e4 : (20 : Int) < (n : Int) := by omega
    go_wp2_with fail
    refine wp_loop_rounds 2 ?_
    rw [rounds_succ]
    go_wp2_with fail
    refine wp_loop_rounds 1 ?_
    rw [rounds_succ]
    go_wp2_with fail
    refine (symMerge_any g c n cap 0 20 n xs C2 _ (by omega) hl (by omega) h (Nat.le_refl _) hA2'.out (hE'.out.on hO2'.out) hr2.out hS2.out hLa.out hL2'.out).mono ?_
    rintro e w3 ⟨rfl, C3, hA3, hO3, hM3, hL3⟩
    have hA3' := Lib.hid hA3
    have hO3' := Lib.hid (hO2'.out.trans hO3)
    have hM3' := Lib.hid hM3
    have hL3' := Lib.hid hL3
    clear hA3 hO3 hM3 hL3
    go_wp2_with fail
    rw [rounds_succ]
    go_wp2_with fail
    go_end0
    exact ⟨rfl, C3, hA3'.out, hO3'.out, hMM.out.trans hM3'.out, hL3'.out⟩
  · have e4 : ¬ (20 : Int) < (n : Int) := by omega
    have en : n = 20 := by omega
    have en' := Lib.hid en
    clear en
    go_wp2_with fail
    refine wp_loop_rounds 1 ?_
    rw [rounds_succ]
    go_wp2_with fail
    go_end0
    exact ⟨rfl, C2, hA2'.out, hO2'.out, hMM.out, by rw [en'.out]; exact hLa.out⟩

set_option maxHeartbeats 2000000 in
theorem stable_40 (g c cap : Nat) (xs : List Nat) (D : Nat → Int) (w : World) (hl : xs.length ≤ 1000) (hD : At g 40 D w) (hE : Env g c xs w) (hr : ∀ p, p < 40 → 0 ≤ D p ∧ D p < xs.length) (hs : Stab (kf xs) D 0 40) :
    Calls Tryd.prog 37 #[.slice (some ⟨g, 0, none⟩) 40 cap, .int .i64 40, .func (.func 30) #[] #[.pointer (some ⟨c, 0, none⟩)]] w (SortPost g 40 0 40 xs D w) := by
  have hD' := Lib.hid hD
  have hE' := Lib.hid hE
  have hs' := Lib.hid hs
  have hr' := Lib.hid hr
  clear hD hE hs hr
  go_enter Tryd.func37, Tryd.ntmps37
  go_wp2_with fail
  refine wp_loop_rounds 3 ?_
  rw [rounds_succ]
  go_wp2_with fail
  refine (insertion_any g c 40 cap 0 20 xs D _ (by omega) hl (by omega) (by omega) hD'.out hE'.out hr'.out (hs'.out.sub (Nat.le_refl _) (by omega))).mono ?_
  rintro e w1 ⟨rfl, C, hA, hO, hM, hL⟩
  have hA' := Lib.hid hA
  have hO' := Lib.hid hO
  have hM' := Lib.hid hM
  have hL' := Lib.hid hL
  have hS1 := Lib.hid (hs'.out.moved hM'.out hL'.out)
  have hr1 := Lib.hid (hM'.out.rng (by omega) hr'.out)
  clear hA hO hM hL
  go_wp2_with fail
  rw [rounds_succ]
  go_wp2_with fail
  refine (insertion_any g c 40 cap 20 40 xs C _ (by omega) hl (by omega) (Nat.le_refl _) hA'.out (hE'.out.on hO'.out) hr1.out (hS1.out.sub (Nat.zero_le _) (Nat.le_refl _))).mono ?_
  rintro e w2 ⟨rfl, C2, hA2, hO2, hM2, hL2⟩
  have hA2' := Lib.hid hA2
  have hO2' := Lib.hid (hO'.out.trans hO2)
  have hM2' := Lib.hid hM2
  have hL2' := Lib.hid hL2
  have hS2 := Lib.hid (stab_block hS1.out hM2'.out hL'.out hL2'.out)
  have hr2 := Lib.hid (hM2'.out.rng (Nat.le_refl _) hr1.out)
  have hLa := Lib.hid (show LS (kf xs) C2 0 20 from hL'.out.congr fun p _ p2 => hM2'.out.1 p (.inl p2))
  have hMM := Lib.hid (show Moves 0 40 D C2 from (hM'.out.wider (Nat.le_refl _) (by omega)).trans (hM2'.out.wider (Nat.zero_le _) (Nat.le_refl _)))
  clear hA2 hO2 hM2 hL2
  go_wp2_with fail
  rw [rounds_succ]
  go_wp2_with fail
  refine (insertion_any g c 40 cap 40 40 xs C2 _ (by omega) hl (by omega) (Nat.le_refl _) hA2'.out (hE'.out.on hO2'.out) hr2.out (hS2.out.sub (Nat.zero_le _) (Nat.le_refl _))).mono ?_
  rintro e w3 ⟨rfl, C3, hA3, hO3, hM3, hL3⟩
  have e3 := Lib.hid (show ∀ p, C3 p = C2 p from fun p => hM3.1 p (by omega))
  have hA3' := Lib.hid (hA3.congr (D' := C2) fun p _ => (e3.out p).symm)
  have hO3' := Lib.hid (hO2'.out.trans hO3)
  clear hA3 hO3 hM3 hL3
  go_wp2_with fail
  refine wp_loop_rounds 2 ?_
  rw [rounds_succ]
  go_wp2_with fail
  refine wp_loop_rounds 2 ?_
  rw [rounds_succ]
  go_wp2_with fail
  refine (symMerge_any g c 40 cap 0 20 40 xs C2 _ (by omega) hl (by omega) (by omega) (Nat.le_refl _) hA3'.out (hE'.out.on hO3'.out) hr2.out hS2.out hLa.out hL2'.out).mono ?_
  rintro e w4 ⟨rfl, C4, hA4, hO4, hM4, hL4⟩
  have hA4' := Lib.hid hA4
  have hO4' := Lib.hid (hO3'.out.trans hO4)
  have hM4' := Lib.hid hM4
  have hL4' := Lib.hid hL4
  clear hA4 hO4 hM4 hL4
  go_wp2_with fail
  rw [rounds_succ]
  go_wp2_with fail
  rw [rounds_succ]
  go_wp2_with fail
  go_end0
  exact ⟨rfl, C4, hA4'.out, hO4'.out, hMM.out.trans hM4'.out, hL4'.out⟩

theorem stable_any (g c n cap : Nat) (xs : List Nat) (D : Nat → Int) (w : World) (hn : n ≤ 40) (hl : xs.length ≤ 1000) (hD : At g n D w) (hE : Env g c xs w) (hr : ∀ p, p < n → 0 ≤ D p ∧ D p < xs.length) (hs : Stab (kf xs) D 0 n) :
    Calls Tryd.prog 29 #[.slice (some ⟨g, 0, none⟩) n cap, .func (.func 30) #[] #[.pointer (some ⟨c, 0, none⟩)]] w (SortPost g n 0 n xs D w) := by
  have inner : Calls Tryd.prog 37 #[.slice (some ⟨g, 0, none⟩) n cap, .int .i64 n, .func (.func 30) #[] #[.pointer (some ⟨c, 0, none⟩)]] w (SortPost g n 0 n xs D w) := by
    by_cases h1 : n < 20
    · exact stable_lt20 g c n cap xs D w h1 hl hD hE hr hs
    · by_cases h2 : n < 40
      · exact stable_mid g c n cap xs D w (by omega) h2 hl hD hE hr hs
      · obtain rfl : n = 40 := by omega
        exact stable_40 g c cap xs D w hl hD hE hr hs
  have inner' := Lib.hid inner
  clear inner hD hE hr hs
  go_enter Tryd.func29, Tryd.ntmps29
  go_wp2_with fail
  refine inner'.out.mono ?_
  rintro e w1 ⟨rfl, hC⟩
  have hC' := Lib.hid hC
  clear hC
  go_wp2_with fail
  go_end0
  exact ⟨rfl, hC'.out⟩
end Go.Proofs.YtdnemlanahlnpaaDoor
