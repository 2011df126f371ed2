/-
  The law on the places of an order, walked.
-/
import Derived.Test.YtokpdcelfanbpaaDoorSame
namespace Go.Proofs.YtokpdcelfanbpaaDoor
open Go.RowKit Fl BigFrame

theorem places_many (n b : Nat) (d : Option Addr) (cap : Nat) (w : World) {B0 : Nat} (ht : Tab B0 w) (h : 20 < n) :
    Calls Tryd.prog 10 #[.slice d n cap, .int .u64 b] w fun e w' => e = .returned (.bool true) ∧ Below w.heap.size w w' := by
  have T := Lib.hid ht
  have e1 : decide ((20 : Int) < (n : Int)) = true := by simp; omega
  clear ht h
  go_enter Tryd.func10, Tryd.ntmps10
  go_wp2_with (go_at_call 11; refine (awake_any _ T.out).mono ?_; rintro e w' ⟨rfl, hb1⟩)
  go_ret
  exact ⟨rfl, hb1⟩

theorem fat_fits {w : World} {a : Option Addr} {xs : List Nat} (h : FAt w a xs) : ∀ x ∈ xs, Fits x := by
  rcases h with rfl | ⟨b, off, _, hx⟩
  · intro x hx; cases hx
  · intro x hx'
    obtain ⟨i, hi, rfl⟩ := List.getElem_of_mem hx'
    have := hx.fits i hi
    have e : fl xs i = xs[i] := by simp [fl, List.getD, List.getElem?_eq_getElem hi]
    rwa [e] at this
/-- the first c, as cells -/
def rl (R : Nat → Int) (c : Nat) : List Value := (List.range c).map fun p => .int .i64 (R p)
theorem rl_succ (R : Nat → Int) (c : Nat) : rl R (c + 1) = rl R c ++ [.int .i64 (R c)] := by simp [rl, List.range_succ]
theorem own_ints {w : World} {B n : Nat} {e : TypeId} {v : Value} {R : Nat → Int} (h : w.ownsRow B e 1 v n (rl R n)) : ∃ a cap, v = .slice a n cap ∧ IntsAt w a n R := by
  have h' := h
  rcases h.2 with ⟨rfl, h0⟩ | ⟨g, cap, cur, rfl, _⟩
  · exact ⟨none, 0, by rw [h0], .inl h0⟩
  · refine ⟨_, cap, rfl, .inr ⟨g, 0, rfl, fun k hk => ?_⟩⟩
    rw [Nat.zero_add, h'.cellAt k (by omega)]
    simp [rl, hk]
/-- how many of the first k are kept -/
def kept (m k : Nat) : Nat := if k ≤ m then k else k - 1
def PlRel (n m g : Nat) (D : Nat → Int) (w : World) (r i : Value) (wr : World) : Prop :=
  ∃ k : Nat, k ≤ n + 1 ∧ i = .int .i64 k ∧ wr.ownsRow w.heap.size 3 1 r (kept m k) (rl (without D m) (kept m k)) ∧ IntsAt wr (some ⟨g, 0, none⟩) (n + 1) D ∧ Below w.heap.size w wr

theorem plRel_skip {n m g k : Nat} {D : Nat → Int} {w wr : World} {r : Value} (hkm : k = m) (hm : m < n + 1) (ho : wr.ownsRow w.heap.size 3 1 r (kept m k) (rl (without D m) (kept m k))) (hI : IntsAt wr (some ⟨g, 0, none⟩) (n + 1) D) (hb : Below w.heap.size w wr) :
    PlRel n m g D w r (.int .i64 ((k : Int) + 1)) wr := by
  have e : kept m (k + 1) = kept m k := by unfold kept; rw [if_neg (by omega), if_pos (by omega)]; omega
  exact ⟨k + 1, by omega, by go_num, by rw [e]; exact ho, hI, hb⟩

theorem kf_more (xs : List Nat) (y : Nat) (x : Int) (h0 : 0 ≤ x) (h1 : x < xs.length) : kf (xs ++ [y]) x = kf xs x := by
  have : x.toNat < xs.length := by omega
  unfold kf
  congr 1
  simp [fl, List.getD, List.getElem?_append_left this]

set_option maxRecDepth 20000 in
set_option maxHeartbeats 2000000 in
theorem places_few (zs : List Int) (y : Nat) (hy : Fits y) (cap : Nat) (ad : Option Addr) (w : World) {B0 : Nat} (ht : Tab B0 w) (hl : zs.length ≤ 20) (hv : ISlice .u64 w (.slice ad zs.length cap) zs) :
    Calls Tryd.prog 10 #[.slice ad zs.length cap, .int .u64 y] w fun e w' => e = .returned (.bool true) ∧ Below w.heap.size w w' := by
  obtain ⟨i0, hi, hz0, hz1, hz2⟩ := info_parts Tryd.infoF
  obtain ⟨j0, hj, hk0, hk1, hk2⟩ := info_parts Tryd.infoI
  have hf := frombits_run
  have T := Lib.hid ht
  have hv' := Lib.hid hv
  have e1 : decide ((20 : Int) < (zs.length : Int)) = false := by simp; omega
  clear ht hv
  go_enter Tryd.func10, Tryd.ntmps10
  go_wp2_with fail
  refine (numbers_sl _ zs w hv'.out (by omega)).mono ?_
  rintro e w1 ⟨a1, c1, rfl, hx, hb1, ho⟩
  have hL := bitsOf_length zs
  generalize bitsOf zs = xs at *
  rw [← hL] at hl ho e1 ⊢
  have hx' := Lib.hid hx
  have hb1' := Lib.hid hb1
  have ho' := Lib.hid ho
  have hfit := Lib.hid (fat_fits hx)
  clear hx hL hv' hb1 ho
  go_wp2_with (at_builtin; refine wpList_append_copy rfl _ _ 25 rfl 27 i0 (.float .f64 0) 8 Tryd.underlying25 hi hz0 hz1 hz2 rfl rfl w.heap.size xs.length _ (xs.map (Value.float .f64)) rfl ho'.out ?c2 ?c3 ?c4 ?_)
  case c2 => intro u hu; obtain ⟨x, _, rfl⟩ := List.mem_map.1 hu; rfl
  case c3 => unfold maxLen; omega
  case c4 => omega
  intro v2 w2 ho2 hb2
  have ho2' := Lib.hid ho2
  have hb2' := Lib.hid hb2
  have hs2 := hb2.size
  clear ho2 hb2
  go_wp2_with (at_builtin; refine wpList_append_own _ rfl _ _ 25 rfl w1.heap.size 27 i0 (.float .f64 0) 1 8 Tryd.underlying25 hi hz0 hz1 hz2 rfl (by decide) _ _ _ rfl (ho2'.out.alloc _) ⟨w2.heap.size, 0, none⟩ 1 1 [.float .f64 y] rfl rfl ?d1 ?d2 ?d3 ?d4 ?d5 ?_)
  case d1 => exact one_new _ _ _
  case d2 => intro u hu; simp at hu; subst hu; rfl
  case d3 => unfold maxLen; omega
  case d4 => omega
  case d5 => simp; omega
  intro v3 w3 ho3 hg3 _
  have hb3 := Lib.hid (show Below w1.heap.size w1 w3 from app_below hb2'.out hg3 (own_ge ho2'.out))
  obtain ⟨ys, hys⟩ : ∃ ys, ys = xs ++ [y] := ⟨_, rfl⟩
  have hoy := own_floats (L := ys) (w := w3) (v := v3) (n := xs.length + 1) (by rw [hys, List.map_append]; exact ho3) (by
    rw [hys]; intro x hx
    rcases List.mem_append.1 hx with h1 | h1
    · exact hfit.out x h1
    · rw [List.mem_singleton.1 h1]; exact hy)
  have hyl : ys.length = xs.length + 1 := by rw [hys, List.length_append, List.length_singleton]
  have hyl' := Lib.hid hyl
  have hys' := Lib.hid hys
  have hl3 := Lib.hid (show ys.length ≤ 40 by omega)
  obtain ⟨a3, c3, rfl, hx3⟩ := fat_of hoy
  have hx3' := Lib.hid hx3
  have hx4 := Lib.hid (hx'.out.on hb3.out rfl)
  clear hoy ho3 hg3 hx3 hyl hys hx' hfit ho' ho2' hb2'
  go_wp2_with fail
  refine (order_sl _ c1 xs w3 hx4.out (by omega)).mono ?_
  rintro e w4 ⟨g1, C, rfl, _, _, hA1, hP1, hb4⟩
  have hA1' := Lib.hid hA1
  have hP1' := Lib.hid hP1
  have hb4' := Lib.hid hb4
  have hx5 := Lib.hid (hx3'.out.on hb4 rfl)
  clear hA1 hP1 hb4 hx3' hx4
  go_wp2_with fail
  refine (order_sl _ c3 ys w4 hx5.out hl3.out).mono ?_
  rintro e w5 ⟨g2, D, rfl, _, _, hA2, hP2, hb5⟩
  have hI1 := Lib.hid (hA1'.out.ints.on hb5 rfl)
  rw [hyl'.out] at hA2 hP2 ⊢
  obtain ⟨m, hm, hDm⟩ := hP2.each xs.length (by omega)
  have hRC := Lib.hid (places_unique (places_without (K := kf xs) hP2 hm hDm (fun x h0 h1 => by rw [hys'.out]; exact kf_more xs y x h0 h1)) hP1'.out)
  have hI2 := Lib.hid hA2.ints
  have hbw := Lib.hid (stp (stp (stp hb1'.out hb3.out) hb4'.out) hb5)
  have hP2' := Lib.hid hP2
  have hDm' := Lib.hid hDm
  have hI2' := Lib.hid hA2.ints
  clear hA1' hP1' hb4' hx5 hA2 hP2 hb5 hDm hys' hb3 hb1' hl3 hyl'
  go_wp2_with fail
  go_loopw [9, 10] (fun r i wr => PlRel xs.length m g2 D w5 r i wr) (fun _ i _ => xs.length + 1 - (intOf i).toNat)
  case atStart => exact ⟨0, by omega, rfl, World.ownsRow_nil _ _ _ _, hI2.out, Below.refl _ _⟩
  case round =>
    clear hI2
    obtain ⟨k, hk, rfl, ho, hI, hb⟩ := hrel
    by_cases hlt : k < xs.length + 1
    · have q0 : wr.cell? ⟨g2, k, none⟩ = some (.int .i64 (D k)) := by
        rcases hI with h | ⟨b, o, e, h⟩
        · omega
        · obtain ⟨rfl, rfl⟩ : g2 = b ∧ 0 = o := by simpa using e
          have := h k hlt
          rwa [Nat.zero_add] at this
      obtain ⟨d, hd⟩ := Int.eq_ofNat_of_zero_le (hP2'.out.2 k hlt).1
      rw [hd] at q0
      have ho' := Lib.hid ho
      have hI' := Lib.hid hI
      have hb' := Lib.hid hb
      have hsw := hb.size
      clear ho hI hb
      by_cases hkm : k = m
      · have hdn : d = xs.length := by have := hDm'.out; rw [← hkm, hd] at this; omega
        subst hdn
        have hend := Lib.hid (plRel_skip hkm hm ho'.out hI'.out hb'.out)
        clear hkm hd
        go_wp2_with fail
        exact ⟨hend.out, by simp [intOf]; omega⟩
      · have hdn : d ≠ xs.length := by
          intro e
          have e2 : D k = D m := by rw [hDm'.out, hd, e]
          by_cases h1 : k < m
          · exact hP2'.out.1.ne k m h1 hm e2
          · exact hP2'.out.1.ne m k (by omega) hlt e2.symm
        have t1 : ((d : Int) != (xs.length : Int)) = true := by rw [bne_iff_ne]; omega
        have t2 : (d != xs.length) = true := by rw [bne_iff_ne]; exact hdn
        have hkk : kept m (k + 1) = kept m k + 1 := by unfold kept; split <;> split <;> omega
        have hke : without D m (kept m k) = (d : Int) := by
          rw [← hd]
          unfold kept without
          split
          · rw [if_pos (by omega)]
          · rw [if_neg (by omega)]; congr 1; omega
        have hkb : kept m k ≤ xs.length + 1 := by unfold kept; split <;> omega
        have hend := Lib.hid (fun (v' : Value) (w' : World) (h1 : w'.ownsRow w5.heap.size 3 1 v' (kept m k + 1) (rl (without D m) (kept m k) ++ [.int .i64 (d : Int)])) (h2 : Below w5.heap.size w5 w') =>
          show PlRel xs.length m g2 D w5 v' (.int .i64 ((k : Int) + 1)) w' from ⟨k + 1, by omega, by go_num, by rw [hkk, rl_succ, hke]; exact h1, (hI2'.out).on h2 rfl, h2⟩)
        clear hkk hke hd hdn
        go_wp2_with (at_builtin; refine wpList_append_own _ rfl _ _ 29 rfl w5.heap.size 3 j0 (.int .i64 0) 1 8 Tryd.underlying29 hj hk0 hk1 hk2 rfl (by decide) _ _ _ rfl (ho'.out.alloc _) ⟨wr.heap.size, 0, none⟩ 1 1 [.int .i64 (d : Int)] rfl rfl ?e1 ?e2 ?e3 ?e4 ?e5 ?_)
        case e1 => exact one_new _ _ _
        case e2 => intro u hu; simp at hu; subst hu; rfl
        case e3 => unfold maxLen; omega
        case e4 => omega
        case e5 => simp; omega
        intro v6 w6 ho6 hg6 _
        have hb6 := Lib.hid (app_below hb'.out hg6 (own_ge ho'.out))
        have ho6' := Lib.hid ho6
        clear ho6 hg6
        go_wp2_with fail
        exact ⟨hend.out _ _ ho6'.out hb6.out, by simp [intOf]; omega⟩
    · have hkn : k = xs.length + 1 := by omega
      subst hkn
      rw [show kept m (xs.length + 1) = xs.length by unfold kept; rw [if_neg (by omega)]; omega] at ho
      obtain ⟨a9, c9, rfl, hR⟩ := own_ints ho
      have hR' := Lib.hid hR
      have hI9 := Lib.hid (hI1.out.on hb rfl)
      have hb' := Lib.hid (stp hbw.out hb)
      clear ho hI hb hR
      go_wp2_with fail
      refine (same_any _ _ c9 _ xs.length _ C wr (by omega) hR'.out hI9.out hRC.out).mono ?_
      rintro e w7 ⟨rfl, hb7⟩
      have hb8 := Lib.hid (stp hb'.out hb7)
      clear hb7
      go_wp2_with (go_at_call 11; refine (awake_any _ (T.out.on hb8.out)).mono ?_; rintro e w' ⟨rfl, hb1⟩)
      go_ret
      exact ⟨rfl, stp hb8.out hb1⟩

theorem places_any (v : Value) (zs : List Int) (y : Nat) (hy : Fits y) (w : World) {B0 : Nat} (ht : Tab B0 w) (hv : ISlice .u64 w v zs) :
    Calls Tryd.prog 10 #[v, .int .u64 y] w fun e w' => e = .returned (.bool true) ∧ Below w.heap.size w w' := by
  have hv' := hv
  rcases hv with ⟨ad, cap, rfl, rfl⟩ | ⟨h0, b1, off, cap, rfl, _⟩
  · exact places_few [] y hy cap ad w ht (by simp) hv'
  · by_cases hl : zs.length ≤ 20
    · exact places_few zs y hy cap _ w ht hl hv'
    · exact places_many _ y _ cap w ht (by omega)
end Go.Proofs.YtokpdcelfanbpaaDoor
