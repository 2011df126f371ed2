/-
  The law on Clamp, walked.
-/
import Derived.Test.YtokpdcelfanbpaaDoorAwake
namespace Go.Proofs.YtokpdcelfanbpaaDoor
open Go.RowKit Fl

theorem nanB_NaN : nanB NaN = true := by decide
theorem clampB_fits {x lo hi : Nat} (hx : Fits x) (hl : Fits lo) (hh : Fits hi) : Fits (clampB x lo hi) := by
  unfold clampB
  repeat' split
  all_goals first | exact fits_NaN | assumption

/-- where nothing is clamped: one is none, or the bounds stand the wrong way -/
theorem clamps_none (a b c : Nat) (ha : Fits a) (hb : Fits b) (hc : Fits c) (w : World) {B0 : Nat} (ht : Tab B0 w) (h : nanB a = true ∨ nanB b = true ∨ nanB c = true ∨ key c < key b) :
    Calls Tryd.prog 5 #[.int .u64 a, .int .u64 b, .int .u64 c] w fun e w' => e = .returned (.bool true) ∧ Below w.heap.size w w' := by
  have hy : clampB a b c = NaN := by
    unfold clampB; repeat' split
    all_goals first | rfl | simp_all | omega
  have hn := Lib.hid nanB_NaN
  have hf := frombits_run
  have ht' := Lib.hid ht
  have hy' := Lib.hid hy
  have h' := Lib.hid h
  clear ht hy h
  go_enter Tryd.func5, Tryd.ntmps5
  go_wp2_with (first
    | (go_at_call_of 32 (Value.float FloatKind.f64 NaN); refine (isNaN_any _ _).mono ?_; rintro e w' ⟨rfl, rfl⟩; rw [hn.out])
    | (go_at_call 32; refine (isNaN_any _ _).mono ?_; rintro e w' ⟨rfl, rfl⟩)
    | (go_at_call 26; refine (clamp_any _ _ _ _ ha hb hc).mono ?_; rintro e w' ⟨rfl, rfl⟩; rw [hy'.out])
    | (go_at_call_of 24 (Value.float FloatKind.f64 c); refine (less_any _ _ _ (by assumption) (by assumption)).mono ?_; rintro e w' ⟨rfl, rfl⟩)
    | (go_at_call 11; refine (awake_any _ ht'.out).mono ?_; rintro e w' ⟨rfl, hb1⟩))
  all_goals first
    | (go_ret; exact ⟨rfl, hb1⟩)
    | (exfalso; rcases h'.out with h | h | h | h <;> first | omega | simp_all)

theorem clampB_some (x lo hi : Nat) (hx : nanB x = false) (hl : nanB lo = false) (hh : nanB hi = false) (ho : ¬ key hi < key lo) :
    nanB (clampB x lo hi) = false ∧ ¬ key (clampB x lo hi) < key lo ∧ ¬ key hi < key (clampB x lo hi) ∧ (¬ key x < key lo → ¬ key hi < key x → clampB x lo hi = x) := by
  unfold clampB
  rw [hx, hl, hh]
  simp only [Bool.false_eq_true, if_false, if_neg ho]
  split
  · exact ⟨hl, by omega, by omega, fun h => by omega⟩
  · split
    · exact ⟨hh, by omega, by omega, fun _ h => by omega⟩
    · exact ⟨hx, by assumption, by assumption, fun _ _ => rfl⟩

/-- where something is clamped -/
theorem clamps_some (a b c : Nat) (ha : Fits a) (hb : Fits b) (hc : Fits c) (w : World) {B0 : Nat} (ht : Tab B0 w) (na : nanB a = false) (nb : nanB b = false) (nc : nanB c = false) (ho : ¬ key c < key b) :
    Calls Tryd.prog 5 #[.int .u64 a, .int .u64 b, .int .u64 c] w fun e w' => e = .returned (.bool true) ∧ Below w.heap.size w w' := by
  have hz := clampB_some a b c na nb nc ho
  have fy := clampB_fits ha hb hc
  have hin := hz.2.2.2
  have hzz := clampB_some (clampB a b c) b c hz.1 nb nc ho
  have hyy := hzz.2.2.2 hz.2.1 hz.2.2.1
  obtain ⟨y, hy⟩ : ∃ y, y = clampB a b c := ⟨_, rfl⟩
  rw [← hy] at hz hin hyy fy
  have h1 : decide (key y < key b) = false := by simpa using hz.2.1
  have h2 : decide (key c < key y) = false := by simpa using hz.2.2.1
  have h3 : decide (key c < key b) = false := by simpa using ho
  have hy' := Lib.hid hy
  have hyy' := Lib.hid hyy
  have na' := Lib.hid na
  have nb' := Lib.hid nb
  have nc' := Lib.hid nc
  have hin' := Lib.hid hin
  have hf := frombits_run
  have ht' := Lib.hid ht
  clear ht hy hyy hzz hz ho na nb nc hin
  go_enter Tryd.func5, Tryd.ntmps5
  go_wp2_with (first
    | (go_at_call_of 32 (Value.float FloatKind.f64 a); refine (isNaN_any _ _).mono ?_; rintro e w' ⟨rfl, rfl⟩; rw [na'.out])
    | (go_at_call_of 32 (Value.float FloatKind.f64 b); refine (isNaN_any _ _).mono ?_; rintro e w' ⟨rfl, rfl⟩; rw [nb'.out])
    | (go_at_call_of 32 (Value.float FloatKind.f64 c); refine (isNaN_any _ _).mono ?_; rintro e w' ⟨rfl, rfl⟩; rw [nc'.out])
    | (go_at_call_of 26 (Value.float FloatKind.f64 a); refine (clamp_any _ _ _ _ ha hb hc).mono ?_; rintro e w' ⟨rfl, rfl⟩; rw [← hy'.out])
    | (go_at_call_of 26 (Value.float FloatKind.f64 y); refine (clamp_any _ _ _ _ fy hb hc).mono ?_; rintro e w' ⟨rfl, rfl⟩; rw [hyy'.out])
    | (go_at_call 24; refine (less_any _ _ _ (by assumption) (by assumption)).mono ?_; rintro e w' ⟨rfl, rfl⟩)
    | (go_at_call 23; refine (alike_any _ _ _ (by assumption) (by assumption)).mono ?_; rintro e w' ⟨rfl, rfl⟩)
    | (go_at_call 11; refine (awake_any _ ht'.out).mono ?_; rintro e w' ⟨rfl, hb1⟩))
  all_goals first
    | (go_ret; exact ⟨rfl, hb1⟩)
    | (go_ret; exact ⟨ret_bool (by simp; omega), hb1⟩)
    | (exfalso; have h := hin'.out (by omega) (by omega); simp_all; done)
end Go.Proofs.YtokpdcelfanbpaaDoor
