/-
  The law on the best, walked.
-/
import Derived.Test.YtokpdcelfanbpaaDoorPig
import Derived.BigQuiet
import Derived.Laws.AppendOwnNone
namespace Go.Proofs.YtokpdcelfanbpaaDoor
open Go.RowKit Fl BigFrame

theorem best_many (n : Nat) (d : Option Addr) (cap : Nat) (w : World) {B0 : Nat} (ht : Tab B0 w) (h : 30 < n) :
    Calls Tryd.prog 7 #[.slice d n cap] w fun e w' => e = .returned (.bool true) ∧ Below w.heap.size w w' := by
  have T := Lib.hid ht
  have e1 : decide ((30 : Int) < (n : Int)) = true := by simp; omega
  clear ht h
  go_enter Tryd.func7, Tryd.ntmps7
  go_wp2_with (go_at_call 11; refine (awake_any _ T.out).mono ?_; rintro e w' ⟨rfl, hb1⟩)
  go_ret
  exact ⟨rfl, hb1⟩

theorem numbers_nil (a : Option Addr) (cap : Nat) (w : World) :
    Calls Tryd.prog 12 #[.slice a 0 cap] w fun e w' => e = .returned (.slice none 0 0) ∧ w = w' := by
  go_enter Tryd.func12, Tryd.ntmps12
  go_wp2_with fail
  refine wp_loop_rounds 1 ?_
  rw [rounds_succ]
  go_wp2_with fail
  go_ret
  exact ⟨rfl, rfl⟩
theorem nan_copy {xs : List Nat} (h : ∀ x ∈ xs, Fits x) : ∀ x ∈ xs ++ [NaN], Fits x := by
  intro x hx
  rcases List.mem_append.1 hx with h1 | h1
  · exact h x h1
  · rw [List.mem_singleton.1 h1]; exact fits_NaN
theorem FAt.fits {w : World} {a : Option Addr} {xs : List Nat} (h : FAt w a xs) : ∀ x ∈ xs, Fits x := by
  rcases h with rfl | ⟨b, off, _, hx⟩
  · intro x hx; cases hx
  · intro x hx'
    obtain ⟨i, hi, rfl⟩ := List.getElem_of_mem hx'
    have := hx.fits i hi
    have e : fl xs i = xs[i] := by simp [fl, List.getD, List.getElem?_eq_getElem hi]
    rwa [e] at this
theorem own_form {w : World} {base n cap : Nat} {e : TypeId} {a : Option Addr} {L : List Value} (h : w.ownsRow base e 1 (.slice a n cap) n L) (h0 : 0 < n) : ∃ g, a = some ⟨g, 0, none⟩ := by
  rcases h.2 with ⟨_, h1⟩ | ⟨g, _, _, h1, _⟩
  · omega
  · exact ⟨g, (Value.slice.inj h1).1⟩

set_option maxRecDepth 20000 in
set_option maxHeartbeats 2000000 in
theorem best_law_some (zs : List Int) (cap : Nat) (ad : Option Addr) (w : World) {B0 : Nat} (ht : Tab B0 w) (hl : zs.length ≤ 30) (h0 : 0 < zs.length) (hv : ISlice .u64 w (.slice ad zs.length cap) zs) :
    Calls Tryd.prog 7 #[.slice ad zs.length cap] w fun e w' => e = .returned (.bool true) ∧ Below w.heap.size w w' := by
  obtain ⟨i0, hi, hz0, hz1, hz2⟩ := info_parts Tryd.infoF
  have T := Lib.hid ht
  have hv' := Lib.hid hv
  have e1 : decide ((30 : Int) < (zs.length : Int)) = false := by simp; omega
  clear ht hv
  go_enter Tryd.func7, Tryd.ntmps7
  go_wp2_with fail
  refine (numbers_sl _ zs w hv'.out (by omega)).mono ?_
  rintro e w1 ⟨a1, c1, rfl, hx, hb1, ho⟩
  have hL := bitsOf_length zs
  generalize bitsOf zs = xs at *
  rw [← hL] at hl h0 ho e1 ⊢
  obtain ⟨g0, rfl⟩ := own_form ho h0
  have hx' := Lib.hid hx
  have hsz := hb1.size
  have hb1' := Lib.hid hb1
  have ho' := Lib.hid ho
  have hfit := Lib.hid hx.fits
  clear hx hL hv' hb1 ho
  obtain ⟨k0, hk0⟩ : ∃ k0, bestOf xs xs.length = k0 := ⟨_, rfl⟩
  have hk0' := Lib.hid hk0
  clear hk0
  go_wp2_with fail
  refine (best_sl _ c1 xs w1 hx'.out (by omega)).mono ?_
  rintro e w' ⟨rfl, rfl⟩
  rw [hk0'.out]
  go_wp2_with (at_builtin; refine wpList_append_own _ rfl _ _ 25 rfl w1.heap.size 27 i0 (.float .f64 0) 1 8 Tryd.underlying25 hi hz0 hz1 hz2 rfl (by decide) _ _ _ rfl (World.ownsRow_nil _ _ _ _) ⟨g0, 0, none⟩ xs.length c1 (xs.map (Value.float .f64)) rfl ?c0 ?c1 ?c2 ?c3 ?c4 ?c5 ?_)
  case c0 => simp
  case c1 => exact ho'.out.cells rfl
  case c2 => intro u hu; obtain ⟨x, _, rfl⟩ := List.mem_map.1 hu; rfl
  case c3 => unfold maxLen; omega
  case c4 => omega
  case c5 => omega
  intro v2 w2 ho2 hg2 _
  have ho2' := Lib.hid ho2
  have hb2 := Lib.hid (show Below w1.heap.size w1 w2 from (Below.refl _ w1).grown hg2 (Nat.le_refl _) (fun _ h => by cases h))
  have hs2 := hb2.out.size
  clear ho2 hg2
  go_wp2_with (first
    | (go_at_call 35; refine (nan_any _).mono ?_; rintro e w' ⟨rfl, rfl⟩)
    | (at_builtin; refine wpList_append_own _ rfl _ _ 25 rfl w1.heap.size 27 i0 (.float .f64 0) 1 8 Tryd.underlying25 hi hz0 hz1 hz2 rfl (by decide) _ _ _ rfl (ho2'.out.alloc _) ⟨w2.heap.size, 0, none⟩ 1 1 [.float .f64 9221120237041090561] rfl rfl ?d1 ?d2 ?d3 ?d4 ?d5 ?_))
  case d1 => exact one_new _ _ _
  case d2 => intro u hu; simp at hu; subst hu; rfl
  case d3 => unfold maxLen; omega
  case d4 => omega
  case d5 => simp; omega
  intro v3 w3 ho3 hg3 _
  have hb3 := Lib.hid (show Below w1.heap.size w1 w3 from app_below hb2.out hg3 (own_ge ho2'.out))
  obtain ⟨ys, hys⟩ : ∃ ys, ys = xs ++ [NaN] := ⟨_, rfl⟩
  have hoy := own_floats (L := ys) (w := w3) (v := v3) (n := xs.length + 1) (by rw [hys, List.map_append]; exact ho3) (by rw [hys]; exact nan_copy hfit.out)
  have hk3 := Lib.hid (show bestOf ys ys.length = k0 by rw [hys, ← hk0'.out]; exact best_more xs NaN (by decide))
  have hl3 := Lib.hid (show ys.length ≤ 1000 by rw [hys, List.length_append, List.length_singleton]; omega)
  clear hys
  obtain ⟨a3, c3, rfl, hx3⟩ := fat_of hoy
  have hx3' := Lib.hid hx3
  clear hoy
  have hs3 := hb3.out.size
  clear ho3 hg3 hx3
  go_wp2_with fail
  refine (best_sl _ c3 _ w3 hx3'.out hl3.out).mono ?_
  rintro e w' ⟨rfl, rfl⟩
  rw [hk3.out]
  have hx4 := Lib.hid (hx'.out.on hb3.out rfl)
  clear hl3 hk3 hx3'
  go_wp2_with fail
  refine (order_sl _ c1 xs w3 hx4.out (by omega)).mono ?_
  rintro e w4 ⟨g, C, rfl, _, _, hA, hP, hb4⟩
  obtain ⟨n, hn⟩ : ∃ n, xs.length = n + 1 := ⟨xs.length - 1, by omega⟩
  obtain ⟨l, hl0⟩ := Int.eq_ofNat_of_zero_le (hP.2 n (by omega)).1
  have hll : l < n + 1 := by have := (hP.2 n (by omega)).2; omega
  have hbl := best_last hn hP hl0
  have c0 : w4.cell? ⟨g, n, none⟩ = some (.int .i64 l) := by rw [(hA n (by omega)).1, hl0]
  have hx5 := hx4.out.on hb4 rfl
  obtain ⟨b5, o5, e5, hF⟩ := hx5.at (k := l) (by omega)
  obtain ⟨rfl, rfl⟩ : g0 = b5 ∧ 0 = o5 := by simpa using e5
  have q0 := hF.cell l (by omega)
  rw [Nat.zero_add] at q0
  have f0 := hF.fits l (by omega)
  have hbw := Lib.hid (stp (stp hb1'.out hb3.out) hb4)
  rw [hk0'.out] at hbl
  rw [hn] at hbl ⊢
  have hx6 := Lib.hid hx5
  clear hx5 hA hP hl0 hb4 hx4 hx' hb3 hb2 ho2' ho' hk0' hb1' hfit e5
  have g1 : decide ((l : Int) < 0) = false := by simp
  have g2 : decide (n + 1 ≤ l) = false := by simp; omega
  have g2' : decide ((n : Int) + 1 ≤ (l : Int)) = false := by simp; omega
  have g3 : (((n : Int) + 1) == 0) = false := by rw [beq_eq_false_iff_ne]; omega
  rcases hbl with ⟨hn1, rfl⟩ | ⟨j, hn1, rfl, hj, hkj, hlt⟩
  · clear hF
    as_aux_lemma =>
      go_wp2_with (first
        | (go_at_call 32; refine (isNaN_any _ _).mono ?_; rintro e w' ⟨rfl, rfl⟩; rw [hn1])
        | (go_at_call 11; refine (awake_any _ (T.out.on hbw.out)).mono ?_; rintro e w' ⟨rfl, hb1⟩))
      go_ret
      exact ⟨rfl, stp hbw.out hb1⟩
  · have q1 := hF.cell j (by omega)
    rw [Nat.zero_add] at q1
    have f1 := hF.fits j (by omega)
    have g4 : decide ((j : Int) < 0) = false := by simp
    have g5 : decide (n + 1 ≤ j) = false := by simp; omega
    have g5' : decide ((n : Int) + 1 ≤ (j : Int)) = false := by simp; omega
    have g6 : decide (key (fl xs j) = key (fl xs l)) = true := by simpa using hkj
    have hlt' := Lib.hid hlt
    clear hF hkj hlt
    go_wp2_with (go_at_call 32; refine (isNaN_any _ _).mono ?_; rintro e w' ⟨rfl, rfl⟩; rw [hn1])
    try simp only [List.append]
    go_big_quiet ((go_at_call 23; refine Calls.quiet_of_same ((alike_any _ _ _ (by assumption) (by assumption)).mono fun _ _ h => ⟨by rw [h.1, g6], h.2.symm⟩)))
    go_wp2_with fail
    go_loopw [6] (fun i wr => GoneTo j (some ⟨g0, 0, none⟩) xs w i wr) (fun i _ => j - (intOf i).toNat)
    case atStart => exact ⟨0, by omega, rfl, hx6.out.drew', bl_drew' hbw.out⟩
    case round =>
      clear q0 q1 c0 hx6 hbw
      obtain ⟨k, hk, rfl, hx7, hb7⟩ := hrel
      by_cases hlk : k < j
      · obtain ⟨b7, o7, e7, hF⟩ := hx7.at (k := j) (by omega)
        obtain ⟨rfl, rfl⟩ : g0 = b7 ∧ 0 = o7 := by simpa using e7
        have q1 := hF.cell j (by omega)
        have q2 := hF.cell k (by omega)
        rw [Nat.zero_add] at q1 q2
        have f2 := hF.fits k (by omega)
        have g7 : decide (key (fl xs k) = key (fl xs j)) = false := by have := hlt'.out k hlk; simp; omega
        have g8 : (k : Int) < (j : Int) := by omega
        have g9 : (k : Int) < (n : Int) + 1 := by omega
        have hend := Lib.hid (fun m => goneTo_next (m := m) hlk hx7 hb7)
        clear hx7 hb7 hF e7
        as_aux_lemma =>
          go_wp2_with fail
          try simp only [List.append]
          go_big_quiet ((go_at_call 23; refine Calls.quiet_of_same ((alike_any _ _ _ (by assumption) (by assumption)).mono fun _ _ h => ⟨by rw [h.1, g7], h.2.symm⟩)))
          go_wp2_with fail
          exact ⟨hend.out _, by simp [intOf]; omega⟩
      · have hb' := Lib.hid hb7
        have g8 : ¬ (k : Int) < (j : Int) := by omega
        clear hb7 hx7
        as_aux_lemma =>
          go_wp2_with fail
          refine (awake_any _ (T.out.on hb'.out)).mono ?_
          rintro e w5 ⟨rfl, c5⟩
          go_wp2_with fail
          go_ret
          exact ⟨rfl, stp hb'.out c5⟩

set_option maxRecDepth 20000 in
set_option maxHeartbeats 2000000 in
theorem best_law_none (cap : Nat) (ad : Option Addr) (w : World) {B0 : Nat} (ht : Tab B0 w) :
    Calls Tryd.prog 7 #[.slice ad 0 cap] w fun e w' => e = .returned (.bool true) ∧ Below w.heap.size w w' := by
  obtain ⟨i0, hi, hz0, hz1, hz2⟩ := info_parts Tryd.infoF
  have T := Lib.hid ht
  clear ht
  go_enter Tryd.func7, Tryd.ntmps7
  go_wp2_with fail
  refine (numbers_nil ad cap w).mono ?_
  rintro e w1 ⟨rfl, rfl⟩
  go_wp2_with fail
  refine (show Calls Tryd.prog 17 #[.slice none 0 0] w fun e w' => e = .returned (.int .i64 (-1)) ∧ w = w' from best_sl none 0 [] w (.inl rfl) (by simp)).mono ?_
  rintro e w' ⟨rfl, rfl⟩
  go_wp2_with (at_builtin; refine wpList_append_own_none rfl _ _ 25 rfl w.heap.size 27 i0 1 Tryd.underlying25 hi _ _ _ rfl (World.ownsRow_nil _ _ _ _) rfl ?_)
  go_wp2_with (first
    | (go_at_call 35; refine (nan_any _).mono ?_; rintro e w' ⟨rfl, rfl⟩)
    | (at_builtin; refine wpList_append_own _ rfl _ _ 25 rfl w.heap.size 27 i0 (.float .f64 0) 1 8 Tryd.underlying25 hi hz0 hz1 hz2 rfl (by decide) _ _ _ rfl (World.ownsRow_nil _ _ _ _) ⟨w.heap.size, 0, none⟩ 1 1 [.float .f64 9221120237041090561] rfl rfl ?d1 ?d2 ?d3 ?d4 ?d5 ?_))
  case d1 => exact one_new _ _ _
  case d2 => intro u hu; simp at hu; subst hu; rfl
  case d3 => unfold maxLen; omega
  case d4 => omega
  case d5 => simp
  intro v3 w3 ho3 hg3 _
  have hb3 := Lib.hid (show Below w.heap.size w w3 from app_below (Below.refl _ w) hg3 (fun _ h => by cases h))
  obtain ⟨ys, hys⟩ : ∃ ys, ys = [NaN] := ⟨_, rfl⟩
  have hoy := own_floats (L := ys) (w := w3) (v := v3) (n := 1) (by rw [hys]; exact ho3) (by rw [hys]; intro x hx; rw [List.mem_singleton.1 hx]; exact fits_NaN)
  have hk3 := Lib.hid (show bestOf ys ys.length = -1 by rw [hys]; exact bestOf_nan [NaN] 0 (by decide))
  have hl3 := Lib.hid (show ys.length ≤ 1000 by rw [hys, List.length_singleton]; omega)
  clear hys
  obtain ⟨a3, c3, rfl, hx3⟩ := fat_of hoy
  have hx3' := Lib.hid hx3
  have hs3 := hb3.out.size
  clear hoy ho3 hg3 hx3
  go_wp2_with fail
  refine (best_sl _ c3 _ w3 hx3'.out hl3.out).mono ?_
  rintro e w' ⟨rfl, rfl⟩
  rw [hk3.out]
  clear hl3 hk3 hx3'
  go_wp2_with fail
  refine (order_none none 0 w3).mono ?_
  rintro e w4 ⟨g, C, rfl, _, _, _, _, hb4⟩
  have hbw := Lib.hid (stp hb3.out hb4)
  clear hb4
  go_wp2_with (go_at_call 11; refine (awake_any _ (T.out.on hbw.out)).mono ?_; rintro e w' ⟨rfl, hb1⟩)
  go_ret
  exact ⟨rfl, stp hbw.out hb1⟩

theorem best_law_any (v : Value) (zs : List Int) (w : World) {B0 : Nat} (ht : Tab B0 w) (hv : ISlice .u64 w v zs) :
    Calls Tryd.prog 7 #[v] w fun e w' => e = .returned (.bool true) ∧ Below w.heap.size w w' := by
  have hv' := hv
  rcases hv with ⟨ad, cap, rfl, rfl⟩ | ⟨h0, b1, off, cap, rfl, _⟩
  · exact best_law_none cap ad w ht
  · by_cases hl : zs.length ≤ 30
    · exact best_law_some zs cap _ w ht hl h0 hv'
    · exact best_many _ _ cap w ht (by omega)
end Go.Proofs.YtokpdcelfanbpaaDoor
