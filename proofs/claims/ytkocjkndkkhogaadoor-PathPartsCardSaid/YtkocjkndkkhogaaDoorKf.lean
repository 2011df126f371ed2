/-
  lasting: those of the parts that no .. behind them takes away.
-/
import Derived.Test.YtkocjkndkkhogaaDoorKd
namespace Go.Proofs.YtkocjkndkkhogaaDoor
open Go.RowKit BigFrame

def GivesT (L : List (List Nat)) (w : World) (e : Ending) (w' : World) : Prop := ∃ v, e = .returned v ∧ OwnT w' w.heap.size v L ∧ Below w.heap.size w w'
def LaRel (L : List (List Nat)) (a : Option Addr) (w0 : World) (g : Nat) (v i : Value) (wr : World) : Prop :=
  ∃ (k : Nat) (out : List (List Nat)), k + g = L.length + 1 ∧ 1 ≤ g ∧ i = .int .i64 k ∧ OwnT wr w0.heap.size v out ∧ TAt wr a L ∧ Below w0.heap.size w0 wr ∧ out ++ lasts (L.drop k) = lasts L ∧ out.length ≤ k
def Stays (L : List (List Nat)) (k : Nat) : Prop := tz L k ≠ dots ∧ need (L.drop (k + 1)) = 0
theorem need_step {L : List (List Nat)} {j : Nat} (h : j < L.length) : need (L.drop j) = if tz L j = dots then need (L.drop (j + 1)) + 1 else need (L.drop (j + 1)) - 1 := by rw [tz_drop h, need]
theorem lasts_yes {L : List (List Nat)} {k : Nat} (h : k < L.length) (hs : Stays L k) : lasts (L.drop k) = tz L k :: lasts (L.drop (k + 1)) := by rw [tz_drop h, lasts]; exact if_pos hs
theorem lasts_no {L : List (List Nat)} {k : Nat} (h : k < L.length) (hs : ¬ Stays L k) : lasts (L.drop k) = lasts (L.drop (k + 1)) := by rw [tz_drop h, lasts]; exact if_neg hs
def DeAt (L : List (List Nat)) (k i e : Nat) : Prop := (i = 0 ∧ e = 0) ∨ (1 ≤ i ∧ 1 ≤ e ∧ (Stays L k ↔ need (L.drop (k + i)) < e))
theorem de_up {L : List (List Nat)} {k i e : Nat} (hk : k + i < L.length) (h : DeAt L k i e) (hd : tz L (k + i) ≠ dots) : DeAt L k (i + 1) (e + 1) := by
  refine .inr ⟨by omega, by omega, ?_⟩
  rcases h with ⟨rfl, rfl⟩ | ⟨_, _, h⟩
  · unfold Stays
    rw [Nat.add_zero] at hd
    exact ⟨fun h => by rw [Nat.zero_add, h.2]; omega, fun h => ⟨hd, by rw [Nat.zero_add] at h; omega⟩⟩
  · rw [need_step hk, if_neg hd] at h
    rw [h, ← Nat.add_assoc]
    omega
theorem de_down {L : List (List Nat)} {k i e : Nat} (hk : k + i < L.length) (h : DeAt L k i e) (hd : tz L (k + i) = dots) (he : 2 ≤ e) : DeAt L k (i + 1) (e - 1) := by
  refine .inr ⟨by omega, by omega, ?_⟩
  rcases h with ⟨rfl, rfl⟩ | ⟨_, _, h⟩
  · omega
  · rw [need_step hk, if_pos hd] at h
    rw [h, ← Nat.add_assoc]
    omega
theorem de_gone {L : List (List Nat)} {k i e : Nat} (hk : k + i < L.length) (h : DeAt L k i e) (hd : tz L (k + i) = dots) (he : e ≤ 1) : ¬ Stays L k := by
  rcases h with ⟨rfl, rfl⟩ | ⟨_, _, h⟩
  · exact fun hs => hs.1 hd
  · rw [need_step hk, if_pos hd] at h
    rw [h]
    omega
theorem de_stays {L : List (List Nat)} {k i e : Nat} (hk : k < L.length) (hi : k + i = L.length) (h : DeAt L k i e) : Stays L k := by
  rcases h with ⟨rfl, rfl⟩ | ⟨_, h1, h⟩
  · omega
  · rw [h, hi, List.drop_length]
    show 0 < e
    omega
def DeRel (L : List (List Nat)) (k : Nat) (wr : World) (g : Nat) (d j : Value) (wx : World) : Prop :=
  ∃ i e : Nat, k + i + g = L.length + 1 ∧ 1 ≤ g ∧ j = .int .i64 i ∧ d = .int .i64 e ∧ e ≤ i ∧ wr = wx ∧ DeAt L k i e
set_option maxHeartbeats 1000000 in
theorem lasting_any (a : Option Addr) (n c : Nat) (L : List (List Nat)) (w : World) (ho : OctsL L) (hn : n = L.length) (hc : n ≤ c) (hl : n ≤ 1000) (hx : TAt w a L) :
    Calls Tryd.prog 26 #[.slice a n c] w (GivesT (lasts L) w) := by
  have hx' := Lib.hid hx
  have hn' := Lib.hid hn
  have ho' := Lib.hid ho
  clear hx hn ho
  go_enter Tryd.func26, Tryd.ntmps26
  go_wp2_with fail
  go_step3
  go_wp2_with fail
  go_step3
  go_wp2_with fail
  go_loopg [3, 11] (n + 1) (fun g v i wr => LaRel L a w g v i wr)
  case atStart => exact ⟨0, [], by rw [← hn'.out]; omega, by omega, rfl, .nil _ _, hx'.out, Below.refl _ _, by rw [List.drop_zero, List.nil_append], by simp⟩
  case round =>
    obtain ⟨k, out, hk, hg1, rfl, hO, hT, hB, hQ, hle⟩ := hrel
    rw [← hn'.out] at hk
    have hO' := Lib.hid hO
    have hB' := Lib.hid hB
    have hQ' := Lib.hid hQ
    have hle' := Lib.hid hle
    by_cases hlt : k < n
    · obtain ⟨g, rfl⟩ : ∃ g, gk = g + 1 := ⟨gk - 1, by omega⟩
      obtain ⟨b, off, rfl⟩ := hT.addr (by rw [← hn'.out]; omega)
      have hT' := Lib.hid hT
      have c1 := hT.cell (k := k) (by rw [← hn'.out]; exact hlt)
      obtain ⟨x, hx⟩ : ∃ x, strOf (tz L k) = x := ⟨_, rfl⟩
      rw [hx] at c1
      have hx2 := Lib.hid hx
      obtain ⟨a2, cap, rfl, hjunk⟩ := hO.slice
      clear hjunk hO hT hB hQ hle hx
      go_wp2_with fail
      go_loopg [6, 20] (n - k + 1) (fun g d j wx => DeRel L k wr g d j wx)
      case atStart => exact ⟨0, 0, by rw [← hn'.out]; omega, by omega, rfl, rfl, by omega, rfl, .inl ⟨rfl, rfl⟩⟩
      case round =>
        obtain ⟨i, e, hi, hg2, rfl, rfl, hei, rfl, hst⟩ := hrel
        rw [← hn'.out] at hi
        have hst' := Lib.hid hst
        clear hst
        by_cases hin : i < n - k
        · obtain ⟨g2, rfl⟩ : ∃ g, gk = g + 1 := ⟨gk - 1, by omega⟩
          have hkL := Lib.hid (show k + i < L.length by rw [← hn'.out]; omega)
          have c2 := hT'.out.cell hkL.out
          have hoct := ho'.out _ (tz_mem hkL.out)
          have hs := dots_str hoct
          obtain ⟨y, hy⟩ : ∃ y, strOf (tz L (k + i)) = y := ⟨_, rfl⟩
          rw [hy] at c2 hs
          rw [← Nat.add_assoc] at c2
          clear hy hoct
          by_cases hd : tz L (k + i) = dots
          · rw [decide_eq_true hd] at hs
            by_cases he : e ≤ 1
            · have hgone := Lib.hid (lasts_no (by rw [← hn'.out]; exact hlt) (de_gone hkL.out hst'.out hd he))
              have t1 : decide ((e : Int) - 1 ≤ 0) = true := by rw [decide_eq_true_eq]; omega
              clear hd
              go_wp2_with fail
              go_roundg g
              case measure => omega
              case rel => exact ⟨k + 1, out, by rw [← hn'.out]; omega, by omega, by go_num, hO'.out, hT'.out, hB'.out, by rw [← hgone.out]; exact hQ'.out, by have := hle'.out; omega⟩
            · have hnext := Lib.hid (de_down hkL.out hst'.out hd (by omega))
              have t1 : decide ((e : Int) - 1 ≤ 0) = false := by rw [decide_eq_false_iff_not]; omega
              clear hd
              go_wp2_with fail
              go_roundg g2
              case measure => omega
              case rel => exact ⟨i + 1, e - 1, by rw [← hn'.out]; omega, by omega, by go_num, congrArg (Value.int .i64) (by omega), by omega, rfl, hnext.out⟩
          · rw [decide_eq_false hd] at hs
            have hnext := Lib.hid (de_up hkL.out hst'.out hd)
            have t1 : decide ((e : Int) + 1 ≤ 0) = false := by rw [decide_eq_false_iff_not]; omega
            clear hd
            go_wp2_with fail
            go_roundg g2
            case measure => omega
            case rel => exact ⟨i + 1, e + 1, by rw [← hn'.out]; omega, by omega, by go_num, by go_num, by omega, rfl, hnext.out⟩
        · have hi2 : k + i = n := by omega
          have hst2 := Lib.hid (de_stays (by rw [← hn'.out]; exact hlt) (by rw [← hn'.out]; exact hi2) hst'.out)
          have hyes := Lib.hid (lasts_yes (by rw [← hn'.out]; exact hlt) hst2.out)
          obtain ⟨p, hp⟩ : ∃ p, tz L k = p := ⟨_, rfl⟩
          rw [hp] at hyes hx2
          have hOa := Lib.hid (hO'.out.alloc (.cells #[.string x] 9))
          have hNa := Lib.hid (show TAt (wr.alloc (.cells #[.string x] 9)) (some ⟨wr.heap.size, 0, none⟩) [p] by rw [← hx2.out]; exact text_new wr p)
          have hBa := Lib.hid (hB'.out.alloc hB'.out.size (.cells #[.string x] 9))
          have hza := Lib.hid hBa.out.size
          clear hp hi2
          go_wp2_with (at_builtin; refine wpList_append_texts rfl (.tmp 33) (.tmp 35) rfl w.heap.size _ out rfl hOa.out ⟨wr.heap.size, 0, none⟩ 1 1 [p] rfl rfl hNa.out (by have := hle'.out; omega) hza.out ?_)
          intro v' w' hov hg3 hbl
          have hend := Lib.hid (hBa.out.trans hbl)
          clear hg3 hbl
          go_wp2_with fail
          go_roundg g
          case measure => omega
          case rel => exact ⟨k + 1, out ++ [p], by rw [← hn'.out]; omega, by omega, by go_num, hov.out, hx'.out.on hend.out (Nat.le_refl _), hend.out, by rw [List.append_assoc, List.singleton_append, ← hyes.out]; exact hQ'.out, by rw [List.length_append]; have := hle'.out; show out.length + 1 ≤ _; omega⟩
    · have hkn : k = n := by omega
      have hfin := Lib.hid (show out = lasts L by rw [← hQ, List.drop_of_length_le (by rw [← hn'.out, hkn]; exact Nat.le_refl _)]; simp [lasts])
      obtain ⟨a2, cap, rfl, hjunk⟩ := hO.slice
      clear hjunk hO hT hB hQ hle
      go_wp2_with fail
      go_ret
      rw [← hfin.out]
      exact ⟨_, rfl, hO'.out, hB'.out⟩
end Go.Proofs.YtkocjkndkkhogaaDoor
