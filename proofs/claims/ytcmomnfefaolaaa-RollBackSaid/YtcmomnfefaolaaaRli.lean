/-
  Are objects more than are gone through?
-/
import Derived.Test.YtcmomnfefaolaaaRla
import Derived.Deep.LoopGhost
namespace Go.Proofs.Ytcmomnfefaolaaa
open Go.RowKit BigFrame
set_option maxRecDepth 100000
/-- none is longer than 200, and they are no more than so many -/
def few (xs : List Ob) (m : Nat) : Bool := decide (xs.length ≤ m ∧ ∀ x ∈ xs, x.b.length ≤ 200)
theorem few_is {xs : List Ob} {m : Nat} : few xs m = true ↔ xs.length ≤ m ∧ ∀ x ∈ xs, x.b.length ≤ 200 := by unfold few; exact decide_eq_true_iff
set_option maxHeartbeats 4000000 in
theorem great_c (os : Value) (xs : List Ob) (m : Nat) (w : World) (ho : SlO w os xs) (hm : m ≤ 1000) :
    Calls Try.prog 6 #[os, .int .i64 (m : Int)] w fun e w' => e = .returned (.bool (!few xs m)) ∧ ∃ q, w' = w.drewN q := by
  obtain ⟨a, cap, rfl, hc, hX, hnil⟩ := ho
  obtain ⟨n, hl⟩ : ∃ n, xs.length = n := ⟨_, rfl⟩
  rw [hl] at hc ⊢
  have hX' := Lib.hid hX
  have hl' := Lib.hid hl
  clear hl hX hnil hc
  by_cases hnm : n ≤ m
  · have d1 : decide ((n : Int) ≤ (m : Int)) = true := decide_eq_true (by omega)
    go_enter Try.func6, Try.ntmps6
    go_wp2_with fail
    go_loopg [5] n (fun q v5 wr => ∃ k r : Nat, k + q = n ∧ v5 = .int .i64 (k : Int) ∧ wr = w.drewN r ∧ ∀ j, j < k → (ob xs j).b.length ≤ 200)
    case atStart => exact ⟨0, 0, by omega, rfl, rfl, fun j hj => by omega⟩
    case round =>
      obtain ⟨k, r, hkg, rfl, rfl, hall⟩ := hrel
      by_cases hlt : k < n
      · obtain ⟨q, rfl⟩ : ∃ q, gk = q + 1 := ⟨gk - 1, by omega⟩
        obtain ⟨b, off, u, had, hobj⟩ := (hX'.out.drew (m := r)).at (k := k) (by rw [hl'.out]; exact hlt)
        subst had
        have c2 := hobj.c2
        obtain ⟨ua, ucap, rfl, -⟩ := hobj.2
        have hall' := Lib.hid hall
        clear hall hobj
        obtain ⟨z, hz⟩ : ∃ z, (ob xs k).b.length = z := ⟨_, rfl⟩
        rw [hz] at c2
        have hz' := Lib.hid hz
        clear hz
        by_cases h2 : z ≤ 200
        · go_wp2_with fail
          go_roundg q
          case measure => omega
          case rel => exact ⟨k + 1, r, by omega, by go_num, rfl, fun j hj => by
            rcases Nat.lt_succ_iff_lt_or_eq.1 hj with h | h
            · exact hall'.out j h
            · subst h; rw [hz'.out]; exact h2⟩
        · go_wp2_with fail
          go_ret
          refine ⟨?_, r, rfl⟩
          have : few xs m = false := by
            cases hf : few xs m
            · rfl
            · exact absurd ((few_is.1 hf).2 _ (ob_mem (L := xs) (k := k) (by rw [hl'.out]; exact hlt))) (by rw [hz'.out]; exact h2)
          rw [this]; rfl
      · have hf : few xs m = true := few_is.2 ⟨by rw [hl'.out]; exact hnm, fun x hx => by
          obtain ⟨k', hk', rfl⟩ := List.mem_iff_getElem.1 hx
          have := hall k' (by rw [hl'.out] at hk'; omega)
          rwa [ob_get hk'] at this⟩
        have hf' := Lib.hid hf
        clear hf hall
        go_wp2_with fail
        go_ret
        exact ⟨by rw [hf'.out]; simp; omega, r, rfl⟩
  · have d1 : decide ((n : Int) ≤ (m : Int)) = false := decide_eq_false (by omega)
    have hf : few xs m = false := by
      cases hf : few xs m
      · rfl
      · exact absurd (few_is.1 hf).1 (by rw [hl'.out]; exact hnm)
    have hf' := Lib.hid hf
    clear hf
    go_enter Try.func6, Try.ntmps6
    go_wp2_with fail
    refine wp_loop_rounds 1 ?_
    rw [rounds_succ]
    go_wp2_with fail
    go_ret
    exact ⟨by rw [hf'.out]; simp; omega, 0, rfl⟩
end Go.Proofs.Ytcmomnfefaolaaa
