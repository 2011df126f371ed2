/-
  Two lists of objects are the same.
-/
import Derived.Test.YtcmomnfefaolaaaRla
import Derived.Test.YtcmomnfefaolaaaSb
import Derived.Deep.LoopGhost
import Derived.BigQuiet
namespace Go.Proofs.Ytcmomnfefaolaaa
open Go.RowKit BigFrame
set_option maxRecDepth 100000
theorem quiet_toldM {P : Program} {f : FuncId} {args : Array Value} {w : World} {n : Nat} {v : Value} (h : Calls P f args (w.drewN n) (Told v (w.drewN n))) :
    Calls P f args (w.drewN n) fun e w'' => e = .returned v ∧ ∃ m, w'' = w.drewN m := h.mono fun _ _ ⟨he, m, hw⟩ => ⟨he, n + m, hw.trans (World.drewN_drewN _ _ _)⟩
set_option maxHeartbeats 4000000 in
theorem sameObs_c (v u : Value) (xs : List Ob) (w : World) (hv : SlO w v xs) (hu : SlO w u xs) (hn : xs.length ≤ 100000) (hb : ∀ x ∈ xs, x.b.length ≤ 100000) :
    Calls Try.prog 16 #[v, u] w (Told (.bool true) w) := by
  obtain ⟨a, cap, rfl, -, hX, -⟩ := hv
  obtain ⟨a2, cap2, rfl, -, hY, -⟩ := hu
  obtain ⟨n, hl⟩ : ∃ n, xs.length = n := ⟨_, rfl⟩
  rw [hl] at hn ⊢
  have hX' := Lib.hid hX
  have hY' := Lib.hid hY
  have hl' := Lib.hid hl
  have hb' := Lib.hid hb
  clear hl hX hY hb
  go_enter Try.func16, Try.ntmps16
  go_wp2_with fail
  go_loopg [5] n (fun q v5 wr => ∃ k r : Nat, k + q = n ∧ v5 = .int .i64 (k : Int) ∧ wr = w.drewN r)
  case atStart => exact ⟨0, 0, by omega, rfl, rfl⟩
  case round =>
    obtain ⟨k, r, hkg, rfl, hwr⟩ := hrel
    have hW := Lib.hid hwr
    clear hwr
    by_cases hlt : k < n
    · obtain ⟨q, rfl⟩ : ∃ q, gk = q + 1 := ⟨gk - 1, by omega⟩
      have hX2 : ObsAt wr a xs := by rw [hW.out]; exact hX'.out.drew
      have hY2 : ObsAt wr a2 xs := by rw [hW.out]; exact hY'.out.drew
      obtain ⟨b, off, p, had, hobj⟩ := hX2.at (k := k) (by rw [hl'.out]; exact hlt)
      obtain ⟨b2, off2, p2, had2, hobj2⟩ := hY2.at (k := k) (by rw [hl'.out]; exact hlt)
      subst had had2
      have hlen := hb'.out _ (ob_mem (L := xs) (k := k) (by rw [hl'.out]; exact hlt))
      obtain ⟨⟨s, pp, z⟩, hx⟩ : ∃ x, ob xs k = x := ⟨_, rfl⟩
      rw [hx] at hobj hobj2 hlen
      have c0 := hobj.c0
      have c1 := hobj.c1
      have c2 := hobj.c2
      have d0 := hobj2.c0
      have d1 := hobj2.c1
      have d2 := hobj2.c2
      obtain ⟨ua, ucap, rfl, -, hua, -⟩ := hobj.2
      obtain ⟨ub, ucap2, rfl, -, hub, -⟩ := hobj2.2
      simp only at c0 c1 c2 d0 d1 d2 hua hub hlen
      obtain ⟨m, hm⟩ : ∃ m, z.length = m := ⟨_, rfl⟩
      rw [hm] at c2 d2 hlen
      have hm' := Lib.hid hm
      have hA := Lib.hid hua
      have hB := Lib.hid hub
      have e1 : (s != s) = false := by simp
      have e2 : (pp != pp) = false := by simp
      have hsame := Lib.hid (fun k => (by have h := same_any ua ub ucap ucap2 m m z z (wr.drewN k) hm'.out hm'.out hlen hA.out.drew hB.out.drew; rw [decide_eq_true rfl] at h; exact h : Calls Try.prog 12 #[.slice ua m ucap, .slice ub m ucap2] (wr.drewN k) (Told (.bool true) (wr.drewN k))))
      clear hobj hobj2 hX2 hY2 hx hua hub hm
      go_wp2_with fail
      go_big_quiet ((go_at_call 12; exact quiet_toldM (hsame.out _)))
      go_wp2_with fail
      go_roundg q
      case measure => omega
      case rel => exact ⟨k + 1, _, by omega, by go_num, by rw [hW.out, World.drewN_drewN]⟩
    · go_wp2_with fail
      go_ret
      exact ⟨rfl, r, hW.out⟩
end Go.Proofs.Ytcmomnfefaolaaa
