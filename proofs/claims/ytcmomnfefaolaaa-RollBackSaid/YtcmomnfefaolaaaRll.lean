/-
  How many bytes differ at the beginning of two slices.
-/
import Derived.Test.YtcmomnfefaolaaaRla
import Derived.Test.YtcmomnfefaolaaaTo
import Derived.Deep.LoopGhost
import Derived.BigQuiet
namespace Go.Proofs.Ytcmomnfefaolaaa
open Go.RowKit BigFrame
set_option maxRecDepth 100000
/-- so many differ, and no more -/
structure IsPre (l m : List Nat) (n : Nat) : Prop where
  le : n ≤ l.length
  ne : ∀ j, j < n → bz l j ≠ bz m j
  stop : n = l.length ∨ bz l n = bz m n
set_option maxHeartbeats 4000000 in
theorem unlike_c (b1 o1 b2 o2 c1 c2 n : Nat) (l m : List Nat) (w : World) (hl : l.length = n) (hm : m.length = n) (hn : n ≤ 100000) (hA : BAt w (some ⟨b1, o1, none⟩) l) (hB : BAt w (some ⟨b2, o2, none⟩) m) :
    Calls Try.prog 30 #[.slice (some ⟨b1, o1, none⟩) n c1, .slice (some ⟨b2, o2, none⟩) n c2] w fun e w' => ∃ q : Nat, e = .returned (.int .i64 (q : Int)) ∧ IsPre l m q ∧ ∃ r, w' = w.drewN r := by
  have hA' := Lib.hid hA
  have hB' := Lib.hid hB
  have hl' := Lib.hid hl
  have hm' := Lib.hid hm
  clear hA hB hl hm
  go_enter Try.func30, Try.ntmps30
  go_wp2_with fail
  go_loopg [5] n (fun q v5 wr => ∃ k r : Nat, k + q = n ∧ v5 = .int .i64 (k : Int) ∧ wr = w.drewN r ∧ ∀ j, j < k → bz l j ≠ bz m j)
  case atStart => exact ⟨0, 0, by omega, rfl, rfl, fun j hj => by omega⟩
  case round =>
    obtain ⟨k, r, hkg, rfl, hwr, hall⟩ := hrel
    have hW := Lib.hid hwr
    have hal := Lib.hid hall
    clear hwr hall
    by_cases hlt : k < n
    · obtain ⟨q, rfl⟩ : ∃ q, gk = q + 1 := ⟨gk - 1, by omega⟩
      have q1 := (show BAt wr (some ⟨b1, o1, none⟩) l by rw [hW.out]; exact hA'.out.drew).cell (k := k) (by rw [hl'.out]; exact hlt)
      have q2 := (show BAt wr (some ⟨b2, o2, none⟩) m by rw [hW.out]; exact hB'.out.drew).cell (k := k) (by rw [hm'.out]; exact hlt)
      by_cases he : bz l k = bz m k
      · have t : (((bz l k : Nat) : Int) != ((bz m k : Nat) : Int)) = false := by rw [bne_eq_false_iff_eq, he]
        have he' := Lib.hid he
        clear he
        go_wp2_with fail
        go_big_quiet (fail)
        go_wp2_with fail
        go_ret
        exact ⟨k, rfl, ⟨by rw [hl'.out]; omega, hal.out, .inr he'.out⟩, _, by rw [hW.out, World.drewN_drewN]⟩
      · have t : (((bz l k : Nat) : Int) != ((bz m k : Nat) : Int)) = true := by rw [bne_iff_ne]; omega
        have he' := Lib.hid he
        clear he
        go_wp2_with fail
        go_big_quiet (fail)
        go_wp2_with fail
        go_roundg q
        case measure => omega
        case rel => exact ⟨k + 1, _, by omega, by go_num, by rw [hW.out, World.drewN_drewN], fun j hj => by
            rcases Nat.lt_succ_iff_lt_or_eq.1 hj with h | h
            · exact hal.out j h
            · subst h; exact he'.out⟩
    · have hkn : k = n := by omega
      subst hkn
      go_wp2_with fail
      go_big_quiet (fail)
      go_wp2_with fail
      go_ret
      exact ⟨k, rfl, ⟨by rw [hl'.out]; omega, hal.out, .inl hl'.out.symm⟩, _, by rw [hW.out, World.drewN_drewN]⟩
end Go.Proofs.Ytcmomnfefaolaaa
