/-
  What Order gives: the places, by the order of their numbers, alike ones as they stood.
-/
import Derived.Test.YtdnemlanahlnpaaDoorStable
import Derived.Test.YtdnemlanahlnpaaDoorLists
namespace Go.Proofs.YtdnemlanahlnpaaDoor
open Go.ChangeShapes Go.WideShapes Go.ChangeAt Go.RowKit Fl

theorem Tryd.infoI : (Tryd.prog.info? 3).map (fun i => (i.zero, i.size, i.bytes)) = some (some (.int .i64 0), 1, 8) := by kernel_rfl

/-- the order of n places -/
def Places (K : Int → Int) (C : Nat → Int) (n : Nat) : Prop := LS K C 0 n ∧ ∀ p, p < n → 0 ≤ C p ∧ C p < n
def OrderPost (xs : List Nat) (w : World) (e : Ending) (w' : World) : Prop :=
  ∃ g C, e = .returned (.slice (some ⟨g, 0, none⟩) xs.length xs.length) ∧ w.heap.size ≤ g ∧ g < w'.heap.size ∧ At g xs.length C w' ∧ Places (kf xs) C xs.length ∧ Below w.heap.size w w'

def FillRel (g n : Nat) (w : World) (i : Value) (wr : World) : Prop :=
  ∃ k : Nat, k ≤ n ∧ i = .int .i64 k ∧ At g n (fun p => if p < k then p else 0) wr ∧ Oth g w wr

theorem at_made {w : World} {base g n cap : Nat} {e : TypeId} (h : w.ownsRow base e 1 (.slice (some ⟨g, 0, none⟩) n cap) n (madeCells #[Value.int .i64 0] n).toList) : At g n (fun _ => 0) w := by
  intro p hp
  refine ⟨?_, h.frozenAt p⟩
  rw [h.cellAt p (by omega)]
  simp [madeCells, hp, Nat.mod_one]

theorem below_oth {g B : Nat} {w w1 w2 : World} (h : Below B w w1) (ho : Oth g w1 w2) (hg : B ≤ g) : Below B w w2 :=
  h.trans ⟨ho.os, ho.tape, ho.output, by rw [ho.size]; exact Nat.le_refl _, fun k hk => ho.block k (by omega)⟩

set_option maxHeartbeats 1000000 in
theorem stable_none (g c : Nat) (cap : Nat) (w : World) :
    Calls Tryd.prog 29 #[.slice (some ⟨g, 0, none⟩) 0 cap, .func (.func 30) #[] #[.pointer (some ⟨c, 0, none⟩)]] w fun e w' => e = .returned (.tuple #[]) ∧ w' = w := by
  have h1 : Calls Tryd.prog 40 #[.slice (some ⟨g, 0, none⟩) 0 cap, .int .i64 0, .int .i64 0, .func (.func 30) #[] #[.pointer (some ⟨c, 0, none⟩)]] w fun e w' => e = .returned (.tuple #[]) ∧ w' = w := by
    go_enter Tryd.func40, Tryd.ntmps40
    go_wp2_with fail
    refine wp_loop_rounds 1 ?_
    rw [rounds_succ]
    go_wp2_with fail
    go_end0
    exact ⟨rfl, rfl⟩
  have h2 : Calls Tryd.prog 37 #[.slice (some ⟨g, 0, none⟩) 0 cap, .int .i64 0, .func (.func 30) #[] #[.pointer (some ⟨c, 0, none⟩)]] w fun e w' => e = .returned (.tuple #[]) ∧ w' = w := by
    go_enter Tryd.func37, Tryd.ntmps37
    go_wp2_with fail
    refine wp_loop_rounds 1 ?_
    rw [rounds_succ]
    go_wp2_with fail
    refine h1.mono ?_
    rintro e w1 ⟨rfl, rfl⟩
    go_wp2_with fail
    refine wp_loop_rounds 1 ?_
    rw [rounds_succ]
    go_wp2_with fail
    go_end0
    exact ⟨rfl, rfl⟩
  go_enter Tryd.func29, Tryd.ntmps29
  go_wp2_with fail
  refine h2.mono ?_
  rintro e w1 ⟨rfl, rfl⟩
  go_wp2_with fail
  go_end0
  exact ⟨rfl, rfl⟩

set_option maxHeartbeats 2000000 in
theorem order_some (b off cap : Nat) (xs : List Nat) (w : World) (hx : FloatsAt w b off xs) (h0 : 0 < xs.length) (hl : xs.length ≤ 40) :
    Calls Tryd.prog 7 #[.slice (some ⟨b, off, none⟩) xs.length cap] w (OrderPost xs w) := by
  obtain ⟨i0, hi, hz0, hz1, hz2⟩ := info_parts Tryd.infoI
  have hmf : ∀ (fn : Fn) (first cap : Array Value) (w : World), (Instr.makeFunc fn first cap).run Tryd.prog w = .ok (.func fn first cap) w := fun _ _ _ _ => rfl
  have hb : b < w.heap.size := World.block_lt_of_cell? w _ (hx.cell 0 h0)
  have hx' := Lib.hid hx
  clear hx
  go_enter Tryd.func7, Tryd.ntmps7
  go_wp2_with (refine wpList_make_full _ rfl _ _ 29 rfl w.heap.size 3 i0 (.int .i64 0) 1 rfl hi hz0 hz1 .i64 .i64 _ _ xs.length rfl rfl rfl rfl ?c1 ?c2 ?c3 ?_)
  case c1 => rw [hz2]; omega
  case c2 => unfold maxLen; omega
  case c3 => simp
  intro w1 hown hgr
  obtain ⟨g, hg⟩ : ∃ g, g = w.heap.size + 1 := ⟨_, rfl⟩
  obtain ⟨c, hc⟩ : ∃ c, c = w.heap.size := ⟨_, rfl⟩
  rw [← hg] at hown
  have hA0 := at_made hown
  have hsz := (hown.lt _ rfl).2
  have hB : Below w.heap.size w w1 := ((Below.refl _ w).alloc (Nat.le_refl _) _).grown hgr (by show w.heap.size ≤ (w.heap.push _).size; rw [Array.size_push]; omega) (fun _ h => by cases h)
  have hcc : w1.cell? ⟨c, 0, none⟩ = some (.slice (some ⟨b, off, none⟩) xs.length cap) := by
    rw [hc]
    exact hgr.cell (a := ⟨w.heap.size, 0, none⟩) (by simp) (by simp)
  have hE : Env g c xs w1 := ⟨b, off, cap, by omega, by omega, hcc, fun k hk => by rw [hB.cell (p := ⟨b, off + k, none⟩) hb]; exact hx'.out.cell k hk, hx'.out.fits⟩
  have hA0' := Lib.hid hA0
  have hE' := Lib.hid hE
  have hB' := Lib.hid hB
  have hg' := Lib.hid hg
  have hc' := Lib.hid hc
  have hsz' := Lib.hid hsz
  clear hA0 hE hB hown hgr hsz hcc
  rw [← hg, ← hc]
  clear hg hc
  go_wp2_with fail
  go_loopw [4, 10] (fun _ i wr => FillRel g xs.length w1 i wr) (fun _ i _ => xs.length - (intOf i).toNat)
  case atStart => exact ⟨0, by omega, rfl, hA0'.out.congr (fun p _ => by rw [if_neg (by omega)]), Oth.refl _ _⟩
  case round =>
    obtain ⟨k, hk, rfl, hA, hO⟩ := hrel
    by_cases hlt : k < xs.length
    · have c1 := (hA k hlt).1
      have f1 := (hA k hlt).2
      have hA' := Lib.hid hA
      have hO' := Lib.hid hO
      clear hA hO
      go_wp2_with fail
      refine ⟨⟨k + 1, by omega, by go_num, (hA'.out.setCell hlt (k : Int)).congr fun p _ => ?_, hO'.out.setCell _⟩, by simp [intOf]; omega⟩
      unfold upd
      dsimp only
      repeat' split
      all_goals omega
    · have hk' : k = xs.length := by omega
      subst hk'
      have hA' := Lib.hid (hA.congr (D' := fun p => (p : Int)) fun p hp => by rw [if_pos hp])
      have hE2 := Lib.hid (hE'.out.on hO)
      have hO' := Lib.hid hO
      clear hA hO
      go_wp2_with fail
      refine (stable_any g c xs.length xs.length xs (fun p => (p : Int)) wr hl (by omega) hA'.out hE2.out (fun p hp => ⟨by omega, by omega⟩) (fun p q _ h _ _ => by show (p : Int) < q; omega)).mono ?_
      rintro e w2 ⟨rfl, C, hC, hO2, hM, hL⟩
      have hP := Lib.hid (show At g xs.length C w2 ∧ Oth g wr w2 ∧ Moves 0 xs.length (fun p => (p : Int)) C ∧ LS (kf xs) C 0 xs.length from ⟨hC, hO2, hM, hL⟩)
      clear hC hO2 hM hL
      go_wp2_with fail
      go_ret
      obtain ⟨hC, hO2, hM, hL⟩ := hP.out
      have hbg : Below w.heap.size w w2 := below_oth (below_oth hB'.out hO'.out (by rw [hg'.out]; omega)) hO2 (by rw [hg'.out]; omega)
      refine ⟨g, C, rfl, by rw [hg'.out]; omega, by rw [hO2.size, hO'.out.size]; exact hsz'.out, hC, ⟨hL, fun p hp => ?_⟩, hbg⟩
      have := hM.rng (n := xs.length) (N := (xs.length : Int)) (Nat.le_refl _) (fun p hp => ⟨by omega, by omega⟩) p hp
      exact this

set_option maxHeartbeats 2000000 in
theorem order_none (a : Option Addr) (cap : Nat) (w : World) :
    Calls Tryd.prog 7 #[.slice a 0 cap] w (OrderPost [] w) := by
  obtain ⟨i0, hi, hz0, hz1, hz2⟩ := info_parts Tryd.infoI
  have hmf : ∀ (fn : Fn) (first cap : Array Value) (w : World), (Instr.makeFunc fn first cap).run Tryd.prog w = .ok (.func fn first cap) w := fun _ _ _ _ => rfl
  go_enter Tryd.func7, Tryd.ntmps7
  go_wp2_with (refine wpList_make_full _ rfl _ _ 29 rfl w.heap.size 3 i0 (.int .i64 0) 1 rfl hi hz0 hz1 .i64 .i64 _ _ 0 rfl rfl rfl rfl ?c1 ?c2 ?c3 ?_)
  case c1 => omega
  case c2 => unfold maxLen; omega
  case c3 => simp
  intro w1 hown hgr
  obtain ⟨g, hg⟩ : ∃ g, g = w.heap.size + 1 := ⟨_, rfl⟩
  obtain ⟨c, hc⟩ : ∃ c, c = w.heap.size := ⟨_, rfl⟩
  rw [← hg] at hown
  have hsz := (hown.lt _ rfl).2
  have hB : Below w.heap.size w w1 := ((Below.refl _ w).alloc (Nat.le_refl _) _).grown hgr (by show w.heap.size ≤ (w.heap.push _).size; rw [Array.size_push]; omega) (fun _ h => by cases h)
  have hcc : w1.cell? ⟨c, 0, none⟩ = some (.slice a 0 cap) := by
    rw [hc]
    exact hgr.cell (a := ⟨w.heap.size, 0, none⟩) (by simp) (by simp)
  have hB' := Lib.hid hB
  have hg' := Lib.hid hg
  have hsz' := Lib.hid hsz
  clear hB hown hgr hsz
  rw [← hg, ← hc]
  clear hg hc
  go_wp2_with fail
  refine wp_loop_rounds 1 ?_
  rw [rounds_succ]
  go_wp2_with fail
  refine (stable_none g c 0 w1).mono ?_
  rintro e w2 ⟨rfl, rfl⟩
  go_wp2_with fail
  go_ret
  exact ⟨g, fun _ => 0, rfl, by rw [hg'.out]; omega, hsz'.out, fun p hp => absurd hp (by simp), ⟨fun p q _ _ h => absurd h (by simp), fun p hp => absurd hp (by simp)⟩, hB'.out⟩

theorem order_any (v : Value) (xs : List Nat) (w : World) (hv : FSlice w v xs) (hl : xs.length ≤ 40) :
    Calls Tryd.prog 7 #[v] w (OrderPost xs w) := by
  rcases hv with ⟨rfl, rfl⟩ | ⟨b, off, cap, rfl, hc, hm, hx⟩
  · exact order_none _ _ w
  · by_cases h0 : 0 < xs.length
    · exact order_some b off cap xs w hx h0 hl
    · obtain rfl : xs = [] := List.eq_nil_of_length_eq_zero (by omega)
      exact order_none _ _ w
end Go.Proofs.YtdnemlanahlnpaaDoor
