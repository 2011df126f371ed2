/-
  Split, Target and Join.
-/
import Derived.Test.YtkocjkndkkhogaaDoorKd
namespace Go.Proofs.YtkocjkndkkhogaaDoor
open Go.RowKit BigFrame

theorem split_c2 (s : ByteArray) (m : Nat) (M : Int) (hM : M = (m : Int)) (w : World) (hm : m ≤ 1000) :
    Calls Tryd.prog 22 #[.string s, .int .i64 M] w (Gives2 (psOf (codeS m (nb s)) (nb s)) (codeS m (nb s)) w) := by
  subst hM; exact split_any s m w hm
theorem pSplit_any (s : ByteArray) (w : World) :
    Calls Tryd.prog 9 #[.string s] w (Gives2 (psOf (codeP (nb s)) (nb s)) (codeP (nb s)) w) := by
  by_cases h : (nb s).head? = some 47
  · have hc := Lib.hid (show codeP (nb s) = codeS 200 (nb s) from if_pos h)
    have hd := Lib.hid (decide_eq_true h)
    clear h
    go_enter Tryd.func9, Tryd.ntmps9
    go_wp2_with (first
      | (go_at_call 21; refine (prefix_c s _ true hd.out).mono ?_; rintro e w1 ⟨rfl, rfl⟩)
      | (go_at_call 22; refine (split_c2 s 200 _ rfl _ (by omega)).mono ?_; rintro e w1 ⟨v, rfl, ho, hb⟩; have ho' := Lib.hid ho; have hb' := Lib.hid hb; clear ho hb))
    go_ret2
    rw [hc.out]
    exact ⟨_, rfl, ho'.out, hb'.out⟩
  · have hc := Lib.hid (show codeP (nb s) = 2 from if_neg h)
    have hd := Lib.hid (decide_eq_false h)
    clear h
    go_enter Tryd.func9, Tryd.ntmps9
    go_wp2_with (go_at_call 21; refine (prefix_c s _ false hd.out).mono ?_; rintro e w1 ⟨rfl, rfl⟩)
    go_ret2
    rw [hc.out]
    exact ⟨_, rfl, .nil _ _, Below.refl _ _⟩
theorem pJoin_any (a : Option Addr) (n c : Nat) (L : List (List Nat)) (w : World) (hn : n = L.length) (hc : n ≤ c) (hx : TAt w a L) (hz : sizeL L ≤ 1000000) :
    Calls Tryd.prog 19 #[.slice a n c] w fun e w' => e = .returned (.string (strOf (joinL L))) ∧ Below w.heap.size w w' := by
  have hx' := Lib.hid hx
  have hn' := Lib.hid hn
  have hj := Lib.hid (sepJ_is L)
  obtain ⟨y, hy⟩ : ∃ y, sepJ L = y := ⟨_, rfl⟩
  rw [hy] at hj
  have hys : y.size ≤ 1000000 := by
    have := sepJ_length L
    have e : (sepJ L).size = (Lib.join (L.map fun q => q.map UInt8.ofNat) [47]).length := by unfold sepJ; show Array.size _ = _; simp
    rw [← hy, e]; omega
  have hy' := Lib.hid hy
  clear hx hn hy
  go_enter Tryd.func19, Tryd.ntmps19
  go_wp2_with (go_at_call 28; refine (sjoin_c a n c L _ hn'.out hc hx'.out hz).mono ?_; rintro e w1 ⟨rfl, hb⟩; have hb' := Lib.hid hb; clear hb; rw [hy'.out])
  go_ret
  exact ⟨by rw [← hj.out]; rfl, hb'.out⟩
/-- texts, a yes or no, and a code are told -/
def Gives3 (L : List (List Nat)) (r : Bool) (c : Int) (w : World) (e : Ending) (w' : World) : Prop := ∃ v, e = .returned (.tuple #[v, .bool r, .int .i64 c]) ∧ OwnT w' w.heap.size v L ∧ Below w.heap.size w w'
def rootT (l : List Nat) : Bool := decide (codeS 100 l = 0) && decide (l.head? = some 47)
theorem pTarget_any (s : ByteArray) (w : World) :
    Calls Tryd.prog 15 #[.string s] w (Gives3 (psOf (codeS 100 (nb s)) (nb s)) (rootT (nb s)) (codeS 100 (nb s)) w) := by
  have hroot := Lib.hid (show rootT (nb s) = (decide (codeS 100 (nb s) = 0) && decide ((nb s).head? = some 47)) from rfl)
  obtain ⟨c, hc⟩ : ∃ c, codeS 100 (nb s) = c := ⟨_, rfl⟩
  have hc' := Lib.hid hc
  rw [hc] at hroot ⊢
  by_cases h : c = 0
  · obtain ⟨r, hr⟩ : ∃ r, decide ((nb s).head? = some 47) = r := ⟨_, rfl⟩
    have hr' := Lib.hid hr
    have hroot2 := Lib.hid (show rootT (nb s) = r by rw [hroot.out, decide_eq_true h, Bool.true_and, hr])
    subst h
    clear hc hr hroot
    go_enter Tryd.func15, Tryd.ntmps15
    go_wp2_with (first
      | (go_at_call 22; refine (split_c2 s 100 _ rfl _ (by omega)).mono ?_; rw [hc'.out]; rintro e w1 ⟨v, rfl, ho, hb⟩; have ho' := Lib.hid ho; have hb' := Lib.hid hb; clear ho hb)
      | (go_at_call 21; refine (prefix_c s _ r hr'.out).mono ?_; rintro e w1 ⟨rfl, rfl⟩))
    go_ret3
    rw [hroot2.out]
    exact ⟨_, rfl, ho'.out, hb'.out⟩
  · have hp := Lib.hid (show psOf c (nb s) = [] from if_neg h)
    have hroot2 := Lib.hid (show rootT (nb s) = false by rw [hroot.out, decide_eq_false h, Bool.false_and])
    have t1 : (c != 0) = true := by rw [bne_iff_ne]; exact h
    clear hc hroot
    go_enter Tryd.func15, Tryd.ntmps15
    go_wp2_with (go_at_call 22; refine (split_c2 s 100 _ rfl _ (by omega)).mono ?_; rw [hc'.out]; rintro e w1 ⟨v, rfl, ho, hb⟩; have hb' := Lib.hid hb; clear ho hb)
    go_ret3
    rw [hroot2.out, hp.out]
    exact ⟨_, rfl, .nil _ _, hb'.out⟩
end Go.Proofs.YtkocjkndkkhogaaDoor
