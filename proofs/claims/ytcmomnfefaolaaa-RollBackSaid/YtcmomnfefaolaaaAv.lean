/-
  Integers in a block of the call's own, beside what turns other blocks.
-/
import Derived.Test.YtcmomnfefaolaaaAi
import Derived.Test.YtcmomnfefaolaaaOt
namespace Go.Proofs.Ytcmomnfefaolaaa
open Go.RowKit BigFrame

theorem Try.sizeInt : (Try.prog.info? 3).map (·.size) = some 1 := by kernel_rfl
theorem Vi.oth {w w' : World} {t : TypeId} {g G : Nat} {l : List Int} (h : Vi w t G l) (ho : Oth g w w') (hn : ¬ G = g) : Vi w' t G l := by
  unfold Vi; rw [ho.block _ hn]; exact h
theorem Vi.grown {w w' : World} {t : TypeId} {r : Option Nat} {g : Nat} {l : List Int} (h : Vi w t g l) (hg : w.grownBy w' r) (hr : some g ≠ r) : Vi w' t g l := by
  unfold Vi; rw [hg.block g h.lt hr]; exact h
theorem Row.oth {w w' : World} {g G : Nat} {l : List Nat} (h : Row w G l) (ho : Oth g w w') (hn : ¬ G = g) : Row w' G l := by
  unfold Row; rw [ho.block _ hn]; exact h
theorem Oth.setCells {g : Nat} : ∀ {a w : World} (_ : Oth g a w) (o : Nat) (vs : List Value), Oth g a (w.setCells g o vs)
  | _, _, h, _, [] => h
  | _, _, h, o, v :: r => Oth.setCells (h.setCell (p := o) v) (o + 1) r
theorem BAt.oth {w w' : World} {g b off : Nat} {l : List Nat} (h : BAt w (some ⟨b, off, none⟩) l) (ho : Oth g w w') (hn : ¬ b = g) : BAt w' (some ⟨b, off, none⟩) l := by
  rcases h with h | ⟨b', o', e, h⟩
  · exact .inl h
  · simp only [Option.some.injEq, Addr.mk.injEq, and_true] at e
    obtain ⟨rfl, rfl⟩ := e
    exact .inr ⟨b, off, rfl, fun k hk => by rw [ho.cell (a := ⟨b, off + k, none⟩) hn]; exact h k hk⟩
end Go.Proofs.Ytcmomnfefaolaaa
