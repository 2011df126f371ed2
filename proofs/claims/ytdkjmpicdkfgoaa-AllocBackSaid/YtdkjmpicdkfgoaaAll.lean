/-
  All numbers that are there.
-/
import Derived.Test.YtdkjmpicdkfgoaaHas
import Derived.Test.YtdkjmpicdkfgoaaCn
import Derived.Deep.LoopGhost
import Derived.Test.YtdkjmpicdkfgoaaIt
namespace Go.Proofs.Ytdkjmpicdkfgoaa
open Go.RowKit BigFrame

/-- numbers as integers -/
def zl (L : List Nat) (p : Nat) : Int := ((bz L p : Nat) : Int)
theorem own_more {w : World} {base : Nat} {v : Value} {l : List Nat} {k c : Nat} (h : OwnI w base v (countN l k) (zl (allN l k))) (hc : countN l c = countN l k) (ha : allN l c = allN l k) : OwnI w base v (countN l c) (zl (allN l c)) := by
  rw [hc, ha]; exact h
theorem own_one {w : World} {base : Nat} {v : Value} {l : List Nat} {k c : Nat} (h : OwnI w base v (countN l k + 1) (joinI (zl (allN l k)) (countN l k) (fun _ => (k : Int)))) (hc : countN l c = countN l k + 1) (ha : allN l c = allN l k ++ [k]) : OwnI w base v (countN l c) (zl (allN l c)) := by
  rw [hc, ha]
  refine h.congr fun p hp => ?_
  unfold joinI zl
  have hl : countN l k = (allN l k).length := rfl
  by_cases e : p < countN l k
  · rw [if_pos e, bz_append_left (by omega)]
  · rw [if_neg e, bz_append_right (by omega)]
    have : p - (allN l k).length = 0 := by omega
    rw [this]; rfl

def AllRel (l : List Nat) (lim : Nat) (w : World) (g : Nat) (s i : Value) (wr : World) : Prop :=
  ∃ k : Nat, k + g = lim ∧ OwnI wr w.heap.size s (countN l k) (zl (allN l k)) ∧ i = .int .i64 k ∧ Below w.heap.size w wr
def AllPost (l : List Nat) (m : Nat) (w : World) (e : Ending) (w' : World) : Prop :=
  ∃ v, e = .returned v ∧ OwnI w' w.heap.size v (countN l m) (zl (allN l m)) ∧ Below w.heap.size w w'

set_option maxHeartbeats 1000000 in
theorem all_lo (a : Option Addr) (cap n m : Nat) (l : List Nat) (w : World) (ho : Octs l) (hl : l.length = n) (hn : n ≤ 100000) (hx : BAt w a l) (hm : m ≤ 1000000000) (hc : m ≤ 8 * n ∧ m ≤ 100000) :
    Calls Try.prog 72 #[.slice a n cap, .int .i64 (m : Int)] w (AllPost l m w) := by
  have ho' := Lib.hid ho
  have hl' := Lib.hid hl
  have hx' := Lib.hid hx
  clear ho hl hx
  go_enter Try.func72, Try.ntmps72
  go_wp2_with (go_at_call 81; refine (room_any _ _ _ _ (by omega)).mono ?_; rintro e w1 ⟨rfl, rfl⟩)
  go_loopg [5, 11] m (fun g s i wr => AllRel l m w g s i wr)
  case atStart => exact ⟨0, by omega, OwnI.nil _ _ _, rfl, Below.refl _ _⟩
  case round =>
    obtain ⟨k, hg, hO, rfl, hB⟩ := hrel
    have hle := countN_le l k
    have hO' := Lib.hid hO
    have hB' := Lib.hid hB
    clear hO hB
    by_cases hlt : k < m
    · obtain ⟨g, rfl⟩ : ∃ g, gk = g + 1 := ⟨gk - 1, by omega⟩
      obtain ⟨r, hr⟩ : ∃ r, hasN l k = r := ⟨_, rfl⟩
      have hs := Lib.hid (countN_succ l k r hr)
      have ha := Lib.hid (allN_succ l k)
      have hr' := Lib.hid hr
      clear hr
      cases r
      · go_wp2_with (go_at_call 70; refine (has_is _ _ _ k l _ _ hr'.out ho'.out hl'.out (by omega) (hx'.out.on hB'.out (Nat.le_refl _))).mono ?_; rintro e w1 ht1; obtain ⟨rfl, hb1⟩ := ht1.below; have O1 := Lib.hid (hO'.out.on hb1); have B1 := Lib.hid (hB'.out.trans (hb1.mono hB'.out.size)); clear hb1 ht1)
        go_roundg g
        case measure => omega
        case rel => exact ⟨k + 1, by omega, own_more O1.out (by rw [hs.out]; simp) (by rw [ha.out, hr'.out]; simp), by go_num, B1.out⟩
      · go_wp2_with (first
          | (go_at_call 70; refine (has_is _ _ _ k l _ _ hr'.out ho'.out hl'.out (by omega) (hx'.out.on hB'.out (Nat.le_refl _))).mono ?_; rintro e w1 ht1; obtain ⟨rfl, hb1⟩ := ht1.below; have O1 := Lib.hid ((hO'.out.on hb1).alloc (.cells #[.int .i64 (k : Int)] 3)); have B1 := Lib.hid ((hB'.out.trans (hb1.mono hB'.out.size)).alloc (Nat.le_trans hB'.out.size hb1.size) (.cells #[.int .i64 (k : Int)] 3)); have I1 := Lib.hid (int_new w1 (k : Int) 3); clear hb1 ht1)
          | (at_builtin; refine wpList_append_ints rfl (.tmp 17) (.tmp 19) rfl w.heap.size (countN l k) _ (zl (allN l k)) rfl O1.out _ 1 1 (fun _ => (k : Int)) rfl I1.out (fun h => by cases h) (by omega) B1.out.size ?_; intro v2 w2 ho2 hg2 hb2; have B2 := Lib.hid (B1.out.trans hb2)))
        go_roundg g
        case measure => omega
        case rel => exact ⟨k + 1, by omega, own_one ho2.out (by rw [hs.out]; simp) (by rw [ha.out, hr'.out]; simp), by go_num, B2.out⟩
    · obtain rfl : k = m := by omega
      go_wp2_with fail
      go_ret
      exact ⟨_, rfl, hO'.out, hB'.out⟩

set_option maxHeartbeats 1000000 in
theorem all_hi (a : Option Addr) (cap n m : Nat) (l : List Nat) (w : World) (ho : Octs l) (hl : l.length = n) (hn : n ≤ 100000) (hx : BAt w a l) (hm : m ≤ 1000000000) (hc : 8 * n < m) :
    Calls Try.prog 72 #[.slice a n cap, .int .i64 (m : Int)] w (AllPost l (8 * n) w) := by
  have ho' := Lib.hid ho
  have hl' := Lib.hid hl
  have hx' := Lib.hid hx
  clear ho hl hx
  go_enter Try.func72, Try.ntmps72
  go_wp2_with (go_at_call 81; refine (room_any _ _ _ _ (by omega)).mono ?_; rintro e w1 ⟨rfl, rfl⟩)
  go_loopg [5, 11] (8 * n) (fun g s i wr => AllRel l (8 * n) w g s i wr)
  case atStart => exact ⟨0, by omega, OwnI.nil _ _ _, rfl, Below.refl _ _⟩
  case round =>
    obtain ⟨k, hg, hO, rfl, hB⟩ := hrel
    have hle := countN_le l k
    have hO' := Lib.hid hO
    have hB' := Lib.hid hB
    clear hO hB
    by_cases hlt : k < 8 * n
    · obtain ⟨g, rfl⟩ : ∃ g, gk = g + 1 := ⟨gk - 1, by omega⟩
      obtain ⟨r, hr⟩ : ∃ r, hasN l k = r := ⟨_, rfl⟩
      have hs := Lib.hid (countN_succ l k r hr)
      have ha := Lib.hid (allN_succ l k)
      have hr' := Lib.hid hr
      clear hr
      cases r
      · go_wp2_with (go_at_call 70; refine (has_is _ _ _ k l _ _ hr'.out ho'.out hl'.out (by omega) (hx'.out.on hB'.out (Nat.le_refl _))).mono ?_; rintro e w1 ht1; obtain ⟨rfl, hb1⟩ := ht1.below; have O1 := Lib.hid (hO'.out.on hb1); have B1 := Lib.hid (hB'.out.trans (hb1.mono hB'.out.size)); clear hb1 ht1)
        go_roundg g
        case measure => omega
        case rel => exact ⟨k + 1, by omega, own_more O1.out (by rw [hs.out]; simp) (by rw [ha.out, hr'.out]; simp), by go_num, B1.out⟩
      · go_wp2_with (first
          | (go_at_call 70; refine (has_is _ _ _ k l _ _ hr'.out ho'.out hl'.out (by omega) (hx'.out.on hB'.out (Nat.le_refl _))).mono ?_; rintro e w1 ht1; obtain ⟨rfl, hb1⟩ := ht1.below; have O1 := Lib.hid ((hO'.out.on hb1).alloc (.cells #[.int .i64 (k : Int)] 3)); have B1 := Lib.hid ((hB'.out.trans (hb1.mono hB'.out.size)).alloc (Nat.le_trans hB'.out.size hb1.size) (.cells #[.int .i64 (k : Int)] 3)); have I1 := Lib.hid (int_new w1 (k : Int) 3); clear hb1 ht1)
          | (at_builtin; refine wpList_append_ints rfl (.tmp 17) (.tmp 19) rfl w.heap.size (countN l k) _ (zl (allN l k)) rfl O1.out _ 1 1 (fun _ => (k : Int)) rfl I1.out (fun h => by cases h) (by omega) B1.out.size ?_; intro v2 w2 ho2 hg2 hb2; have B2 := Lib.hid (B1.out.trans hb2)))
        go_roundg g
        case measure => omega
        case rel => exact ⟨k + 1, by omega, own_one ho2.out (by rw [hs.out]; simp) (by rw [ha.out, hr'.out]; simp), by go_num, B2.out⟩
    · obtain rfl : k = 8 * n := by omega
      go_wp2_with fail
      go_ret
      exact ⟨_, rfl, hO'.out, hB'.out⟩

/-- those from 0 to below m that are there -/
theorem all_any (a : Option Addr) (cap n m : Nat) (l : List Nat) (w : World) (ho : Octs l) (hl : l.length = n) (hn : n ≤ 10000) (hx : BAt w a l) (hm : m ≤ 1000000000) :
    Calls Try.prog 72 #[.slice a n cap, .int .i64 (m : Int)] w (AllPost l m w) := by
  by_cases h : m ≤ 8 * n
  · exact all_lo a cap n m l w ho hl (by omega) hx hm ⟨h, by omega⟩
  · have e : allN l m = allN l (8 * n) := by rw [allN_min (by omega), hl]
    have e2 : countN l m = countN l (8 * n) := by unfold countN; rw [e]
    unfold AllPost
    rw [e, e2]
    exact all_hi a cap n m l w ho hl (by omega) hx hm (by omega)
theorem all_c (a : Option Addr) (cap n m : Nat) (M : Int) (l : List Nat) (w : World) (hM : M = (m : Int)) (ho : Octs l) (hl : l.length = n) (hn : n ≤ 10000) (hx : BAt w a l) (hm : m ≤ 1000000000) :
    Calls Try.prog 72 #[.slice a n cap, .int .i64 M] w (AllPost l m w) := by
  subst hM; exact all_any a cap n m l w ho hl hn hx hm
end Go.Proofs.Ytdkjmpicdkfgoaa
