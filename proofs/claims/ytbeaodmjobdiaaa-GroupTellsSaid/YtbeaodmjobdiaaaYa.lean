/-
  The document's own: all numbers that are there.
-/
import Derived.Test.YtbeaodmjobdiaaaYh
import Derived.Test.YtbeaodmjobdiaaaAll
namespace Go.Proofs.Ytbeaodmjobdiaaa
open Go.RowKit BigFrame

set_option maxHeartbeats 1000000 in
theorem refAll_lim (a : Option Addr) (cap n m lim : Nat) (l : List Nat) (w : World) (ho : Octs l) (hl : l.length = n) (hn : n ≤ 10000) (hx : BAt w a l) (_hm : m ≤ 1000000000) (h1 : lim ≤ m) (h2 : lim ≤ 8 * n) (h3 : lim = m ∨ lim = 8 * n) :
    Calls Try.prog 28 #[.slice a n cap, .int .i64 (m : Int)] w (AllPost l lim w) := by
  have ho' := Lib.hid ho
  have hl' := Lib.hid hl
  have hx' := Lib.hid hx
  have h3' := Lib.hid h3
  clear ho hl hx h3
  go_enter Try.func28, Try.ntmps28
  go_wp2_with fail
  go_loopg [5, 6] lim (fun g s i wr => AllRel l lim w g s i wr)
  case atStart => exact ⟨0, by omega, OwnI.nil _ _ _, rfl, Below.refl _ _⟩
  case round =>
    obtain ⟨k, hg, hO, rfl, hB⟩ := hrel
    have hle := countN_le l k
    have hO' := Lib.hid hO
    have hB' := Lib.hid hB
    clear hO hB
    by_cases hlt : k < lim
    · obtain ⟨g, rfl⟩ : ∃ g, gk = g + 1 := ⟨gk - 1, by omega⟩
      obtain ⟨r, hr⟩ : ∃ r, hasN l k = r := ⟨_, rfl⟩
      have hs := Lib.hid (countN_succ l k r hr)
      have ha := Lib.hid (allN_succ l k)
      have hr' := Lib.hid hr
      have p1 : k < m := by omega
      have p2 : k < 8 * n := by omega
      clear hr
      cases r
      · go_wp2_with (go_at_call 39; refine (refHas_is _ _ _ k l _ _ hr'.out ho'.out hl'.out (by omega) (by omega) (hx'.out.on hB'.out (Nat.le_refl _))).mono ?_; rintro e w1 ⟨rfl, rfl⟩)
        go_roundg g
        case measure => omega
        case rel => exact ⟨k + 1, by omega, own_more hO'.out (by rw [hs.out]; simp) (by rw [ha.out, hr'.out]; simp), by go_num, hB'.out⟩
      · have O1 := Lib.hid (hO'.out.alloc (.cells #[.int .i64 (k : Int)] 3))
        have B1 := Lib.hid (hB'.out.alloc hB'.out.size (.cells #[.int .i64 (k : Int)] 3))
        have I1 := Lib.hid (int_new wr (k : Int) 3)
        go_wp2_with (first
          | (go_at_call 39; refine (refHas_is _ _ _ k l _ _ hr'.out ho'.out hl'.out (by omega) (by omega) (hx'.out.on hB'.out (Nat.le_refl _))).mono ?_; rintro e w1 ⟨rfl, rfl⟩)
          | (at_builtin; refine wpList_append_ints rfl (.tmp 22) (.tmp 24) rfl w.heap.size (countN l k) _ (zl (allN l k)) rfl O1.out _ 1 1 (fun _ => (k : Int)) rfl I1.out (fun h => by cases h) (by omega) B1.out.size ?_; intro v2 w2 ho2 hg2 hb2; have B2 := Lib.hid (B1.out.trans hb2)))
        go_roundg g
        case measure => omega
        case rel => exact ⟨k + 1, by omega, own_one ho2.out (by rw [hs.out]; simp) (by rw [ha.out, hr'.out]; simp), by go_num, B2.out⟩
    · obtain rfl : k = lim := by omega
      by_cases hk : k < m
      · have p2 : ¬ k < 8 * n := by rcases h3'.out with h | h <;> omega
        go_wp2_with fail
        go_ret
        exact ⟨_, rfl, hO'.out, hB'.out⟩
      · go_wp2_with fail
        go_ret
        exact ⟨_, rfl, hO'.out, hB'.out⟩
/-- those from 0 to below m that are there -/
theorem refAll_c (a : Option Addr) (cap n m : Nat) (M : Int) (l : List Nat) (w : World) (hM : M = (m : Int)) (ho : Octs l) (hl : l.length = n) (hn : n ≤ 10000) (hx : BAt w a l) (hm : m ≤ 1000000000) :
    Calls Try.prog 28 #[.slice a n cap, .int .i64 M] w (AllPost l m w) := by
  subst hM
  by_cases h : m ≤ 8 * n
  · exact refAll_lim a cap n m m l w ho hl hn hx hm (Nat.le_refl _) h (.inl rfl)
  · have e : allN l m = allN l (8 * n) := by rw [allN_min (by omega), hl]
    have e2 : countN l m = countN l (8 * n) := by unfold countN; rw [e]
    unfold AllPost
    rw [e, e2]
    exact refAll_lim a cap n m (8 * n) l w ho hl hn hx hm (by omega) (Nat.le_refl _) (.inr rfl)
end Go.Proofs.Ytbeaodmjobdiaaa
