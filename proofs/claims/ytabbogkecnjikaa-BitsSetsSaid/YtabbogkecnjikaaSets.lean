/-
  The law on numbers that are put in and taken away.
-/
import Derived.Test.YtabbogkecnjikaaAwake
import Derived.Test.YtabbogkecnjikaaAll
import Derived.Test.YtabbogkecnjikaaWith
import Derived.Test.YtabbogkecnjikaaLo
namespace Go.Proofs.Ytabbogkecnjikaa
open Go.RowKit BigFrame

theorem countN_put (l : List Nat) (o : Nat) (on : Bool) : ∀ n, countN l n ≤ countN (putN l o on) n + 1 ∧ (n ≤ o → countN l n = countN (putN l o on) n)
  | 0 => by simp [countN, allN]
  | n + 1 => by
    have ih := countN_put l o on n
    rw [countN_succ l n _ rfl, countN_succ (putN l o on) n _ rfl]
    by_cases e : n = o
    · subst e
      have := ih.2 (Nat.le_refl _)
      refine ⟨?_, fun h => by omega⟩
      split <;> split <;> omega
    · have hh : hasN (putN l o on) n = hasN l n := by rw [hasN_put_any, if_neg (fun h => e h.1)]
      rw [hh]
      refine ⟨by have := ih.1; omega, fun h => by have := ih.2 (by omega); omega⟩
theorem putN_back {l : List Nat} (h : Octs l) (o : Nat) (on : Bool) : putN (putN l o on) o (hasN l o) = l := by
  refine bits_ext (putN_octs (putN_octs h _ _) _ _) h (by rw [putN_length, putN_length]) fun i _ => ?_
  rw [hasN_put_any, hasN_put_any, putN_length]
  by_cases e : i = o ∧ o < 8 * l.length
  · rw [if_pos e, e.1]
  · rw [if_neg e, if_neg e]
theorem putN_gone (l : List Nat) (o : Nat) : hasN (putN l o false) o = false := by
  rw [hasN_put_any]
  by_cases e : o < 8 * l.length
  · rw [if_pos ⟨rfl, e⟩]
  · rw [if_neg (by omega), hasN_out (by omega)]

/-- the numbers below 200 -/
def lowD (R : Nat → Int) (p : Nat) : Int := lowN (R p) 200
def Sets1 (c : Nat) (R : Nat → Int) (w : World) (g : Nat) (s i : Value) (wr : World) : Prop :=
  ∃ k : Nat, k + g = c ∧ OwnI wr w.heap.size s k (lowD R) ∧ i = .int .i64 k ∧ Below w.heap.size w wr
def Sets2 (w : World) (g : Nat) (i : Value) (wr : World) : Prop :=
  ∃ j q : Nat, j + g = 200 ∧ i = .int .i64 j ∧ wr = w.drewN q
def Sets3 (c j : Nat) (R : Nat → Int) (w : World) (g : Nat) (s i : Value) (wr : World) : Prop :=
  ∃ t : Nat, t + g = c ∧ s = .bool (anyI (lowD R) (j : Int) t) ∧ i = .int .i64 t ∧ wr = w

set_option maxRecDepth 100000 in
set_option maxHeartbeats 2000000 in
theorem sets_in (a : Option Addr) (cap c : Nat) (R : Nat → Int) (x : Int) (w : World) (hc : c ≤ 20) (hx : IntsAt w a c R) :
    Calls Try.prog 4 #[.slice a c cap, .int .i64 x] w (Woke w) := by
  have hx' := Lib.hid hx
  clear hx
  go_enter Try.func4, Try.ntmps4
  go_wp2_with fail
  go_loopg [5, 6] c (fun g s i wr => Sets1 c R w g s i wr)
  case atStart => exact ⟨0, by omega, OwnI.nil _ _ _, rfl, Below.refl _ _⟩
  case round =>
    obtain ⟨k, hg, hO, rfl, hB⟩ := hrel
    have hO' := Lib.hid hO
    have hB' := Lib.hid hB
    clear hO hB
    by_cases hlt : k < c
    · obtain ⟨g, rfl⟩ : ∃ g, gk = g + 1 := ⟨gk - 1, by omega⟩
      obtain ⟨b, off, rfl, hcell⟩ : ∃ b off, a = some ⟨b, off, none⟩ ∧ w.cell? ⟨b, off + k, none⟩ = some (.int .i64 (R k)) := by
        rcases hx'.out with h | ⟨b, off, e, h⟩
        · omega
        · exact ⟨b, off, e, h k hlt⟩
      have hbl := World.block_lt_of_cell? w _ hcell
      have hcell2 : wr.cell? ⟨b, off + k, none⟩ = some (.int .i64 (R k)) := by rw [hB'.out.cell (p := ⟨b, off + k, none⟩) hbl]; exact hcell
      clear hcell
      have O1 := Lib.hid (hO'.out.alloc (.cells #[.int .i64 (lowN (R k) 200)] 3))
      have B1 := Lib.hid (hB'.out.alloc hB'.out.size (.cells #[.int .i64 (lowN (R k) 200)] 3))
      have I1 := Lib.hid (int_new wr (lowN (R k) 200) 3)
      go_wp2_with (first
        | (go_at_call 7; refine (low_any _ 200 _ (by omega) (by omega)).mono ?_; rintro e w1 ⟨rfl, rfl⟩)
        | (at_builtin; refine wpList_append_ints rfl (.tmp 22) (.tmp 28) rfl w.heap.size k _ (lowD R) rfl O1.out _ 1 1 (fun _ => lowN (R k) 200) rfl I1.out (fun h => by cases h) (by omega) B1.out.size ?_; intro v2 w2 ho2 hg2 hb2; have B2 := Lib.hid (B1.out.trans hb2); clear hb2))
      go_roundg g
      case measure => omega
      case rel =>
        exact ⟨k + 1, by omega, ho2.out.congr fun p hp => by
          unfold joinI
          by_cases e : p < k
          · rw [if_pos e]
          · rw [if_neg e]; obtain rfl : p = k := by omega
            rfl, by go_num, B2.out⟩
    · obtain rfl : k = c := by omega
      obtain ⟨an, capn, rfl, hI, _, _⟩ := hO'.out.slice
      have hI' := Lib.hid hI
      clear hI
      go_wp2_with (go_at_call 11; refine (of_is _ _ 200 k 25 _ (lowD R) _ _ rfl rfl (by omega) (by omega) (by omega) hI'.out).mono ?_; rintro e w2 ⟨gb, rfl, hgb, hrb, hb2⟩; have Rb := Lib.hid hrb; have I2 := Lib.hid (hI'.out.on hb2 rfl); have B2 := Lib.hid (hB'.out.trans (hb2.mono hB'.out.size)); clear hrb hb2)
      go_loopg [8] 200 (fun g i wr => Sets2 w2 g i wr)
      case atStart => exact ⟨0, 0, by omega, rfl, rfl⟩
      case round =>
        obtain ⟨j, q, hg2, rfl, rfl⟩ := hrel
        by_cases hj : j < 200
        · obtain ⟨g2, rfl⟩ : ∃ g, gk = g + 1 := ⟨gk - 1, by omega⟩
          go_wp2_with fail
          go_loopg [9, 10] k (fun g s i wr => Sets3 k j R (w2.drewN q) g s i wr)
          case atStart => exact ⟨0, by omega, rfl, rfl, rfl⟩
          case round =>
            obtain ⟨t, hg3, rfl, rfl, rfl⟩ := hrel
            obtain ⟨u, hu0⟩ : ∃ u, anyI (lowD R) (j : Int) t = u := ⟨_, rfl⟩
            have hs := Lib.hid (show anyI (lowD R) (j : Int) (t + 1) = (anyI (lowD R) (j : Int) t || lowD R t == (j : Int)) from rfl)
            rw [hu0] at hs ⊢
            have hu := Lib.hid hu0
            clear hu0
            by_cases ht : t < k
            · obtain ⟨g3, rfl⟩ : ∃ g, gk = g + 1 := ⟨gk - 1, by omega⟩
              obtain ⟨b, off, rfl, hcell⟩ : ∃ b off, an = some ⟨b, off, none⟩ ∧ w2.cell? ⟨b, off + t, none⟩ = some (.int .i64 (lowD R t)) := by
                rcases I2.out with h | ⟨b, off, e, h⟩
                · omega
                · exact ⟨b, off, e, h t ht⟩
              have hcell2 : (w2.drewN q).cell? ⟨b, off + t, none⟩ = some (.int .i64 (lowD R t)) := hcell
              cases u
              · go_wp2_with fail
                go_roundg g3
                case measure => omega
                case rel => exact ⟨t + 1, by omega, by rw [hs.out]; simp, by go_num, rfl⟩
              · go_wp2_with fail
                go_roundg g3
                case measure => omega
                case rel => exact ⟨t + 1, by omega, by rw [hs.out]; simp, by go_num, rfl⟩
            · obtain rfl : t = k := by omega
              have hh := Lib.hid (show hasN (setsN 200 (lowD R) t) j = u by rw [setsN_has, hu.out]; simp [hj])
              go_wp2_with (go_at_call 9; refine (has_is _ _ 25 j _ _ _ hh.out (setsN_octs _ _ _) (setsN_length _ _ _) (by omega) (Rb.out.bat.drew)).mono ?_; rintro e w3 ⟨rfl, q3, rfl⟩)
              go_roundg g2
              case measure => omega
              case rel => exact ⟨j + 1, q + q3, by omega, by go_num, rfl⟩
        · have hL0 := setsN_length 200 (lowD R) k
          have hLo0 := setsN_octs 200 (lowD R) k
          obtain ⟨L, hL⟩ : ∃ L, setsN 200 (lowD R) k = L := ⟨_, rfl⟩
          rw [hL] at hL0 hLo0 Rb
          have hLn := Lib.hid hL0
          have hLo := Lib.hid hLo0
          obtain ⟨cb, hcb0⟩ : ∃ cb, countN L 200 = cb := ⟨_, rfl⟩
          have hcbl : cb ≤ 200 := by rw [← hcb0]; exact countN_le _ _
          have hcb := Lib.hid hcb0
          have tok1 : True := trivial
          clear hL0 hLo0 hL hcb0
          go_wp2_with (first
            | (go_at_call 7; refine (low_c x _ 200 _ rfl (by omega) (by omega)).mono ?_; rintro e w3 ⟨o, ho, rfl, rfl⟩; obtain ⟨C, hC0⟩ : ∃ C, putN L o false = C := ⟨_, rfl⟩; have hC := Lib.hid hC0; have hCn := Lib.hid (show C.length = 25 by rw [← hC0, putN_length]; exact hLn.out); have hCo := Lib.hid (show Octs C by rw [← hC0]; exact putN_octs hLo.out _ _); obtain ⟨cc, hcc0⟩ : ∃ cc, countN C 200 = cc := ⟨_, rfl⟩; have hccl : cc ≤ 200 := (by rw [← hcc0]; exact countN_le _ _); have hge : cb ≤ cc + 1 := (by rw [← hcc0, ← hC0, ← hcb.out]; exact (countN_put L o false 200).1); have hcc := Lib.hid hcc0; have hgone := Lib.hid (show hasN C o = false by rw [← hC0]; exact putN_gone L o); obtain ⟨rb, hrb0⟩ : ∃ rb, hasN L o = rb := ⟨_, rfl⟩; have hback := Lib.hid (show putN C o rb = L by rw [← hC0, ← hrb0]; exact putN_back hLo.out o false); have hrb := Lib.hid hrb0; clear hC0 hcc0 hrb0)
            | (go_at_call_of 12 gb; refine (with_c _ _ 25 o _ false L C _ hC.out rfl hLo.out hLn.out (by omega) Rb.out.bat.drew (fun h => by cases h)).mono ?_; rintro e w3 ⟨v3, rfl, ho3, hb3⟩; obtain ⟨gc, cap3, rfl, _, _, _⟩ := ho3.at hCn.out (by omega); have Oc3 := Lib.hid ho3; have Rb3 := Lib.hid (Rb.out.drew.on hb3 Rb.out.lt); have B3 := Lib.hid (B2.out.trans (((below_drewN w2 _).trans hb3).mono B2.out.size)); clear ho3 hb3)
            | (go_at_call_of 9 gc; refine (has_c _ _ 25 o _ C false _ hgone.out rfl hCo.out hCn.out (by omega) Oc3.out.bat).mono ?_; rintro e w4 ⟨rfl, q4, rfl⟩)
            | (go_at_call_of 13 gc; refine (count_is _ _ 25 200 cc _ C _ hcc.out rfl hCo.out hCn.out (by omega) Oc3.out.bat.drew (by omega)).mono ?_; rintro e w4 ⟨rfl, q5, rfl⟩)
            | (have _t := tok1; go_at_call_of 13 gb; refine (count_is _ _ 25 200 cb _ L _ hcb.out rfl hLo.out hLn.out (by omega) Rb3.out.bat.drew (by omega)).mono ?_; rintro e w4 ⟨rfl, q6, rfl⟩; clear tok1 _t)
            | (go_at_call_of 14 gb; refine (all_c _ _ 25 200 _ L _ rfl hLo.out hLn.out (by omega) Rb3.out.bat.drew (by omega)).mono ?_; rintro e w4 ⟨v4, rfl, ho4, hb4⟩; obtain ⟨a4, c4, rfl, _, _, _, _, _⟩ := ho4.slice; rw [hcb.out]; have Rb4 := Lib.hid (Rb3.out.drew.on hb4 Rb3.out.lt); have Oc4 := Lib.hid (Oc3.out.drew.on hb4 (Nat.le_refl _)); have B4 := Lib.hid (B3.out.trans (((below_drewN w3 _).trans hb4).mono B3.out.size)); clear ho4 hb4)
            | (go_at_call_of 13 gb; refine (count_is _ _ 25 200 cb _ L _ hcb.out rfl hLo.out hLn.out (by omega) Rb4.out.bat (by omega)).mono ?_; rintro e w5 ⟨rfl, q7, rfl⟩)
            | (go_at_call_of 9 gb; refine (has_c _ _ 25 o _ L rb _ hrb.out rfl hLo.out hLn.out (by omega) Rb4.out.bat.drew).mono ?_; rintro e w5 ⟨rfl, q8, rfl⟩)
            | (go_at_call_of 12 gc; refine (with_c _ _ 25 o _ rb C L _ hback.out rfl hCo.out hCn.out (by omega) Oc4.out.bat.drew (fun h => by cases h)).mono ?_; rintro e w5 ⟨v5, rfl, ho5, hb5⟩; obtain ⟨g5, cap5, rfl, _, _, _⟩ := ho5.at hLn.out (by omega); have O5 := Lib.hid ho5; have Rb5 := Lib.hid (Rb4.out.drew.on hb5 Rb4.out.lt); have B5 := Lib.hid (B4.out.trans (((below_drewN w4 _).trans hb5).mono B4.out.size)); clear ho5 hb5)
            | (go_at_call 15; refine (same_same _ _ _ _ 25 L L _ hLn.out rfl (by omega) O5.out.bat Rb5.out.bat).mono ?_; rintro e w6 ⟨rfl, hb6⟩; have B6 := Lib.hid (B5.out.trans (hb6.mono B5.out.size)); clear hb6)
            | (go_at_call 6; refine (awake_any _).mono ?_; rintro e w7 ⟨rfl, hb7⟩; have B7 := Lib.hid (B6.out.trans (hb7.mono B6.out.size)); clear hb7))
          go_ret
          exact ⟨rfl, B7.out⟩
theorem sets_long (a : Option Addr) (cap c : Nat) (x : Int) (w : World) (hc : 20 < c) :
    Calls Try.prog 4 #[.slice a c cap, .int .i64 x] w (Woke w) := by
  go_enter Try.func4, Try.ntmps4
  go_wp2_with (go_at_call 6; refine (awake_any _).mono ?_; rintro e w1 ⟨rfl, hb⟩)
  go_ret
  exact ⟨rfl, by assumption⟩
theorem sets_law (a : Option Addr) (cap c : Nat) (R : Nat → Int) (x : Int) (w : World) (hx : IntsAt w a c R) :
    Calls Try.prog 4 #[.slice a c cap, .int .i64 x] w (Woke w) := by
  by_cases h : c ≤ 20
  · exact sets_in a cap c R x w h hx
  · exact sets_long a cap c x w (by omega)
end Go.Proofs.Ytabbogkecnjikaa
