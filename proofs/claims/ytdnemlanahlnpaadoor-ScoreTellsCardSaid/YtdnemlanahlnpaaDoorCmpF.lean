/-
  The comparison that Order hands to the library's sort.
-/
import Derived.Test.YtdnemlanahlnpaaDoorSwap
import Derived.Deep.QuietTactic
import Derived.BigQuiet
namespace Go.Proofs.YtdnemlanahlnpaaDoor
open Go.RowKit Fl

/-- what the comparison reads: the captured slice, and its floats, none of them in block g -/
def Env (g c : Nat) (xs : List Nat) (w : World) : Prop :=
  ∃ b off cap, b ≠ g ∧ c ≠ g ∧ w.cell? ⟨c, 0, none⟩ = some (.slice (some ⟨b, off, none⟩) xs.length cap) ∧ FloatsAt w b off xs
theorem Env.on {g c : Nat} {xs : List Nat} {w w' : World} (h : Env g c xs w) (ho : Oth g w w') : Env g c xs w' := by
  obtain ⟨b, off, cap, h1, h2, h3, h4⟩ := h
  refine ⟨b, off, cap, h1, h2, ?_, ⟨fun k hk => ?_, h4.fits⟩⟩
  · rw [World.cell?_of_block (w := w) (ho.block c h2)]; exact h3
  · rw [World.cell?_of_block (w := w) (ho.block b h1)]; exact h4.cell k hk
/-- the key of a place -/
def kf (xs : List Nat) (x : Int) : Int := key (fl xs x.toNat)

set_option maxHeartbeats 400000 in
theorem cmpF_any (g c : Nat) (xs : List Nat) (x y : Nat) (w : World) (hE : Env g c xs w) (hx : x < xs.length) (hy : y < xs.length) (hl : xs.length ≤ 1000) :
    Calls Tryd.prog 30 #[.int .i64 x, .int .i64 y, .pointer (some ⟨c, 0, none⟩)] w fun e w' => e = .returned (.int .i64 (cmp3 (kf xs x) (kf xs y))) ∧ ∃ m, w' = w.drewN m := by
  obtain ⟨b, off, cap, _, _, hc, hf⟩ := hE
  have c1 := hf.cell x hx
  have c2 := hf.cell y hy
  have f1 := hf.fits x hx
  have f2 := hf.fits y hy
  have hb1 : (0 : Int) ≤ (x : Int) := by omega
  have hb2 : (x : Int) < (xs.length : Int) := by omega
  have hb3 : (0 : Int) ≤ (y : Int) := by omega
  have hb4 : (y : Int) < (xs.length : Int) := by omega
  go_enter Tryd.func30, Tryd.ntmps30
  go_wp2_with fail
  go_quiet ((go_at_call 31; refine Calls.quiet_of_same ((compare_any _ _ _ f1 f2).mono fun _ _ h => ⟨h.1, h.2.symm⟩)))
  go_wp2_with fail
  go_ret
  exact ⟨rfl, _, rfl⟩
end Go.Proofs.YtdnemlanahlnpaaDoor
