/-
  Of sectors that were got alone: in lists, and in memory.
-/
import Derived.Test.YtedbfehoeflmgaaClc
set_option linter.unusedVariables false
set_option linter.unusedSimpArgs false
namespace Go.Proofs.Ytedbfehoeflmgaa
open Go.RowKit BigFrame
set_option maxRecDepth 100000

theorem free_clean {x : Sx} (h : x.free = true) : x.dirty = false ∧ x.pin = false := by
  unfold Sx.free at h
  cases hd : x.dirty <;> cases hp : x.pin <;> simp_all
/-- one more is named, the last -/
def agL (m : Nat) (W : List Nat) (s : Nat) : List Nat := (W.filter (fun y => decide (y ≠ s)) ++ [s]).drop ((W.filter (fun y => decide (y ≠ s)) ++ [s]).length - m)
theorem ages_next {m s : Nat} {H : List Sx} (h : AllF H) {x : Sx} (hx : x.free = true) (hp : x.pos = s) : AllF (trim m (nw H x)) ∧ (trim m (nw H x)).map Sx.pos = agL m (H.map Sx.pos) s := by
  have hA : AllF (nw H x) := fun y hy => by
    rcases nw_mem.1 hy with ⟨h1, _⟩ | e
    · exact h y h1
    · rw [e]; exact hx
  refine ⟨fun y hy => hA y ((trim_sub _ _).subset hy), ?_⟩
  have e1 : (nw H x).map Sx.pos = (H.map Sx.pos).filter (fun y => decide (y ≠ s)) ++ [s] := by
    unfold nw
    rw [List.map_append, List.map_singleton, hp, List.filter_map]; rfl
  unfold trim agL
  rw [hA.drop, List.map_drop, ← e1, List.length_map]
theorem agL_len {m s : Nat} {W : List Nat} (hm : 1 ≤ m) : (agL m W s).length ≤ m := by
  unfold agL
  rw [List.length_drop]
  omega
section
variable {w0 w w' : World} {c c' : Ck} {A A' : Lies} {d d' : Dk} {C G m u : Nat} {H H' : List Sx}
/-- a Get of any sector, where all may go -/
theorem getv_free (h : Cv w0 w A d c C G m u H) (hm : m ≤ 100000) (hu : u < 100000) {s : Nat} (hF : AllF H) (hs : s < d.n) (hon : d.on = true) :
    Calls Try.prog 26 #[.pointer (some ⟨C, 0, none⟩), .int .i64 (s : Int)] w fun e w' => ∃ v c' H', e = .returned (.tuple #[v, .int .i64 0]) ∧ Cv w0 w' A d c' C G m (u + 1) H' ∧ AllF H' ∧ H'.map Sx.pos = agL m (H.map Sx.pos) s ∧ Step w (foots A c) w' (foots A c') := by
  cases hg : get H (s : Int) with
  | none =>
    refine (getv_miss h hm hu hg hon hs rfl).mono ?_
    rintro e w' ⟨v, c', b, rfl, hC, _, _, hS⟩
    obtain ⟨h1, h2⟩ := ages_next (m := m) hF (x := ⟨b, s, d.seen s, u + 1, false, false⟩) rfl rfl
    exact ⟨v, c', _, rfl, hC, h1, h2, hS⟩
  | some x =>
    obtain ⟨hx, hp⟩ := get_some hg
    refine (getv_hit h hm hu hx hp.symm).mono ?_
    rintro e w' ⟨v, c', b, rfl, hC, _, _, hS⟩
    obtain ⟨hd, hpn⟩ := free_clean (hF x hx)
    rw [hd, hpn] at hC
    obtain ⟨h1, h2⟩ := ages_next (m := m) hF (x := ⟨b, x.pos, x.b, u + 1, false, false⟩) rfl (show x.pos = s by omega)
    exact ⟨v, c', _, rfl, hC, h1, h2, hS⟩
def gz (W : List Nat) (k : Nat) : Int := ((W.getD k 0 : Nat) : Int)
/-- numbers that are but read, off what turns -/
structure WantAt (w : World) (F : List Nat) (v : Value) (W : List Nat) : Prop where
  ex : ∃ a cap, v = .slice a W.length cap ∧ W.length ≤ cap ∧ IntsAt w a W.length (gz W) ∧ (a = none → cap = 0) ∧ ∀ ad, a = some ad → ad.block ∉ F ∧ ad.block < w.heap.size ∧ ad.spot = none
end
end Go.Proofs.Ytedbfehoeflmgaa
