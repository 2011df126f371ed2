/-
  The small calls of a disk: is it on, how many sectors, how many flushes, what is wrong with it; its power comes again.
-/
import Derived.Test.YtmaodnidodoadaaDs
namespace Go.Proofs.Ytmaodnidodoadaa
open Go.RowKit BigFrame

def ptr (g : Nat) : Value := .pointer (some ⟨g, 0, none⟩)
theorem powered_any (w : World) (B : Nat) (G : Nat) (A : Lies) (d : Dk) (h : IsDk w B G A d) :
    Calls Try.prog 40 #[.pointer (some ⟨G, 0, none⟩)] w fun e w' => e = .returned (.int .i64 (if d.on then 0 else 4)) ∧ w = w' := by
  have c0 := h.cell 0
  obtain ⟨on, hon⟩ : ∃ on, d.on = on := ⟨_, rfl⟩
  simp only [hcells, hon, List.getElem?_toArray, List.getElem?_cons_zero] at c0
  rw [hon]
  clear h hon
  cases on
  · go_enter Try.func40, Try.ntmps40
    go_wp2_with fail
    go_ret
    exact ⟨rfl, rfl⟩
  · go_enter Try.func40, Try.ntmps40
    go_wp2_with fail
    go_ret
    exact ⟨rfl, rfl⟩
theorem on_any (w : World) (B : Nat) (G : Nat) (A : Lies) (d : Dk) (h : IsDk w B G A d) :
    Calls Try.prog 15 #[.pointer (some ⟨G, 0, none⟩)] w fun e w' => e = .returned (.bool d.on) ∧ w = w' := by
  have c0 := h.cell 0
  obtain ⟨on, hon⟩ : ∃ on, d.on = on := ⟨_, rfl⟩
  simp only [hcells, hon, List.getElem?_toArray, List.getElem?_cons_zero] at c0
  rw [hon]
  clear h hon
  go_enter Try.func15, Try.ntmps15
  go_wp2_with fail
  go_ret
  exact ⟨rfl, rfl⟩
theorem flushes_any (w : World) (B : Nat) (G : Nat) (A : Lies) (d : Dk) (h : IsDk w B G A d) :
    Calls Try.prog 14 #[.pointer (some ⟨G, 0, none⟩)] w fun e w' => e = .returned (.int .i64 ((d.flushes : Nat) : Int)) ∧ w = w' := by
  have c0 := h.cell 5
  simp only [hcells, List.getElem?_toArray, List.getElem?_cons_zero, List.getElem?_cons_succ] at c0
  go_enter Try.func14, Try.ntmps14
  go_wp2_with fail
  go_ret
  exact ⟨rfl, rfl⟩
theorem sectors_any (w : World) (B : Nat) (G : Nat) (A : Lies) (d : Dk) (h : IsDk w B G A d) :
    Calls Try.prog 18 #[.pointer (some ⟨G, 0, none⟩)] w fun e w' => e = .returned (.int .i64 ((d.n : Nat) : Int)) ∧ w = w' := by
  have c0 := h.cell 1
  simp only [hcells, List.getElem?_toArray, List.getElem?_cons_zero, List.getElem?_cons_succ] at c0
  go_enter Try.func18, Try.ntmps18
  go_wp2_with fail
  go_ret
  exact ⟨rfl, rfl⟩
/-- what a call for a sector finds wrong -/
def reachN (d : Dk) (at' : Int) : Int := if d.on then (if 0 ≤ at' ∧ at' < (d.n : Int) then 0 else 2) else 4
theorem reach_any (at' : Int) (w : World) (B : Nat) (G : Nat) (A : Lies) (d : Dk) (h : IsDk w B G A d) :
    Calls Try.prog 37 #[.pointer (some ⟨G, 0, none⟩), .int .i64 at'] w fun e w' => e = .returned (.int .i64 (reachN d at')) ∧ w = w' := by
  have h' := Lib.hid h
  have c0 := h.cell 1
  have hn := h.fine.n
  obtain ⟨n, hn'⟩ : ∃ n, d.n = n := ⟨_, rfl⟩
  obtain ⟨on, hon⟩ : ∃ on, d.on = on := ⟨_, rfl⟩
  simp only [hcells, hn', List.getElem?_toArray, List.getElem?_cons_zero, List.getElem?_cons_succ] at c0
  unfold reachN
  rw [hn'] at hn
  rw [hn', hon]
  have hon' := Lib.hid hon
  clear h hon hn'
  cases on
  · go_enter Try.func37, Try.ntmps37
    go_wp2_with (go_at_call 40; refine (powered_any _ B G A d h'.out).mono ?_; rw [hon'.out]; rintro e w1 ⟨rfl, rfl⟩)
    go_ret
    exact ⟨rfl, rfl⟩
  · by_cases h1 : at' < 0
    · have hf := Lib.hid (show (if 0 ≤ at' ∧ at' < (n : Int) then (0 : Int) else 2) = 2 by rw [if_neg (by omega)])
      rw [hf.out]
      go_enter Try.func37, Try.ntmps37
      go_wp2_with (go_at_call 40; refine (powered_any _ B G A d h'.out).mono ?_; rw [hon'.out]; rintro e w1 ⟨rfl, rfl⟩)
      go_ret
      exact ⟨rfl, rfl⟩
    · by_cases h2 : at' < (n : Int)
      · have hf := Lib.hid (show (if 0 ≤ at' ∧ at' < (n : Int) then (0 : Int) else 2) = 0 by rw [if_pos (by omega)])
        rw [hf.out]
        go_enter Try.func37, Try.ntmps37
        go_wp2_with (go_at_call 40; refine (powered_any _ B G A d h'.out).mono ?_; rw [hon'.out]; rintro e w1 ⟨rfl, rfl⟩)
        go_ret
        exact ⟨rfl, rfl⟩
      · have hf := Lib.hid (show (if 0 ≤ at' ∧ at' < (n : Int) then (0 : Int) else 2) = 2 by rw [if_neg (by omega)])
        rw [hf.out]
        go_enter Try.func37, Try.ntmps37
        go_wp2_with (go_at_call 40; refine (powered_any _ B G A d h'.out).mono ?_; rw [hon'.out]; rintro e w1 ⟨rfl, rfl⟩)
        go_ret
        exact ⟨rfl, rfl⟩
end Go.Proofs.Ytmaodnidodoadaa
