/-
  The law on two sealed sectors.
-/
import Derived.Test.YtghopfmidpobhaaArr
namespace Go.Proofs.Ytghopfmidpobhaa
open Go.RowKit BigFrame

theorem sealed_ne {j k : Nat} {l m : List Nat} (h : j ≠ k) : sealed j l ≠ sealed k m := fun e => by
  have := congrArg (fun x => bz x 0) e
  simp only [sealed_zero] at this
  exact h this
theorem splice_front {l : List Nat} (h : l.length ≤ 123) : splice (zs 123) 0 l = l ++ zs (123 - l.length) := by
  unfold splice zs
  rw [List.take_zero, List.nil_append, Nat.zero_add, List.drop_replicate]
theorem sealed_same {k : Nat} {l m : List Nat} (hl : l.length ≤ 123) (hm : m.length ≤ 123) : sealed k l = sealed k m ↔ splice (zs 123) 0 l = splice (zs 123) 0 m := by
  rw [splice_front hl, splice_front hm]
  constructor
  · intro h
    have h1 : front k l = front k m := by rw [← sealed_take hl, ← sealed_take hm, h]
    exact (List.cons.inj h1).2
  · intro h
    have h1 : front k l = front k m := by unfold front; rw [h]
    unfold sealed; rw [h1]

set_option maxRecDepth 100000 in
set_option maxHeartbeats 1000000 in
theorem apart_ne (j k : Nat) (a1 a2 : Option Addr) (c1 c2 n1 n2 : Nat) (l1 l2 : List Nat) (w : World) (hj : j < 256) (hk : k < 256) (hj0 : 0 < j) (hk0 : 0 < k) (hn1 : l1.length = n1) (hn2 : l2.length = n2) (h1 : n1 ≤ 123) (h2 : n2 ≤ 123)
    (ho1 : Octs l1) (ho2 : Octs l2) (hx1 : BAt w a1 l1) (hx2 : BAt w a2 l2) (hjk : j ≠ k) :
    Calls Try.prog 5 #[.int .u8 (j : Int), .int .u8 (k : Int), .slice a1 n1 c1, .slice a2 n2 c2] w (Woke w) := by
  have t3 : ((j : Int) == (k : Int)) = false := by rw [beq_eq_false_iff_ne]; omega
  have t1 : ((j : Int) == 0) = false := by rw [beq_eq_false_iff_ne]; omega
  have t2 : ((k : Int) == 0) = false := by rw [beq_eq_false_iff_ne]; omega
  have hn1' := Lib.hid hn1
  have hn2' := Lib.hid hn2
  have ho1' := Lib.hid ho1
  have ho2' := Lib.hid ho2
  have hx1' := Lib.hid hx1
  have hx2' := Lib.hid hx2
  have hs1 := Lib.hid (sealed_length (kind := j) (l := l1) (by omega))
  have hs2 := Lib.hid (sealed_length (kind := k) (l := l2) (by omega))
  have hso1 := Lib.hid (sealed_octs (kind := j) hj ho1)
  have hsk1 := Lib.hid (kindOf_sealed (kind := j) (l := l1) (by omega))
  have tok1 : True := trivial
  clear hn1 hn2 ho1 ho2 hx1 hx2
  go_enter Try.func5, Try.ntmps5
  go_wp2_with (first
    | (go_at_call_of 9 a1; refine (seal_n j a1 c1 l1 w hn1'.out hj0 hj ho1'.out h1 hx1'.out).mono ?_; rintro e w1 ⟨g1, rfl, hg1, hr1, hb1⟩; have B1 := Lib.hid ((Bag.start w).add hb1 hg1 hr1); clear hr1 hb1 hg1)
    | (go_at_call_of 9 a2; refine (seal_n k a2 c2 l2 w1 hn2'.out hk0 hk ho2'.out h2 (B1.out.arg hx2'.out)).mono ?_; rintro e w2 ⟨g2, rfl, hg2, hr2, hb2⟩; have B2 := Lib.hid (B1.out.add hb2 hg2 hr2); have u1 := B2.out.r1.lt; have u2 := B2.out.r0.lt; have u0 := B2.out.below.size; clear hr2 hb2 hg2)
    | (have _t := tok1; (with_reducible refine wpList_alloc_arr rfl rfl ?_); intro p1 w3 hp1 hgp1 hb3; have B3 := Lib.hid (B2.out.on hb3); have q1 := hp1.out.lt; have z3 := hb3.size; clear hb3 tok1 _t)
    | ((with_reducible refine wpList_alloc_arr rfl rfl ?_); intro p2 w4 hp2 hgp2 hb4; have B4 := Lib.hid (B3.out.on hb4); have V1 := Lib.hid (hp1.out.on hb4 q1); clear hb4)
    | (refine wpList_copy_vr rfl (.tmp 46) (.tmp 47) rfl 36 p1 123 123 a1 n1 c1 (zs 123) l1 rfl rfl hn1'.out V1.out (B4.out.arg hx1'.out) (by omega) (by rw [zs_length]; omega) ?_; intro w5 hv5 hg5; have B5 := Lib.hid (B4.out.grown2 hg5 u1 u2 u0 (fun k hk => by cases hk; exact hgp1)); have V2 := Lib.hid (hp2.out.grown hg5 (fun e => by cases e; omega)); clear hg5)
    | (refine wpList_copy_vr rfl (.tmp 49) (.tmp 50) rfl 36 p2 123 123 a2 n2 c2 (zs 123) l2 rfl rfl hn2'.out V2.out (B5.out.arg hx2'.out) (by omega) (by rw [zs_length]; omega) ?_; intro w6 hv6 hg6; have B6 := Lib.hid (B5.out.grown2 hg6 u1 u2 u0 (fun k hk => by cases hk; omega)); have V1b := Lib.hid (hv5.out.grown hg6 (fun e => by cases e; omega)); clear hg6)
    | (go_at_call 11; refine (open_bad k j (some ⟨g1, 0, none⟩) 128 128 _ w6 hs1.out hsk1.out (.inr hjk) hso1.out (by omega) B6.out.r1.bat).mono ?_; rintro e w7 ht7; obtain ⟨rfl, hb7⟩ := ht7.below; have B7 := Lib.hid (B6.out.on hb7); clear hb7 ht7)
    | (go_at_call 13; refine (same_diff (some ⟨g1, 0, none⟩) (some ⟨g2, 0, none⟩) _ _ 128 (sealed j l1) (sealed k l2) w7 hs1.out hs2.out (sealed_ne hjk) (by omega) B7.out.r1.bat B7.out.r0.bat).mono ?_; rintro e w8 ⟨rfl, hb8⟩; have B8 := Lib.hid (B7.out.on hb8); clear hb8)
    | (go_at_call 7; refine (awake_any w8).mono ?_; rintro e w9 ⟨rfl, hb9⟩; have hend := Lib.hid (B8.out.low hb9); clear hb9))
  go_ret
  exact ⟨rfl, hend.out⟩

set_option maxRecDepth 100000 in
set_option maxHeartbeats 1000000 in
theorem apart_eq (j : Nat) (a1 a2 : Option Addr) (c1 c2 n1 n2 : Nat) (l1 l2 : List Nat) (w : World) (hj : j < 256) (hj0 : 0 < j) (hn1 : l1.length = n1) (hn2 : l2.length = n2) (h1 : n1 ≤ 123) (h2 : n2 ≤ 123)
    (ho1 : Octs l1) (ho2 : Octs l2) (hx1 : BAt w a1 l1) (hx2 : BAt w a2 l2) :
    Calls Try.prog 5 #[.int .u8 (j : Int), .int .u8 (j : Int), .slice a1 n1 c1, .slice a2 n2 c2] w (Woke w) := by
  have heg := Try.eqGuardArr
  have t1 : ((j : Int) == 0) = false := by rw [beq_eq_false_iff_ne]; omega
  have hn1' := Lib.hid hn1
  have hn2' := Lib.hid hn2
  have ho1' := Lib.hid ho1
  have ho2' := Lib.hid ho2
  have hx1' := Lib.hid hx1
  have hx2' := Lib.hid hx2
  have hs1 := Lib.hid (sealed_length (kind := j) (l := l1) (by omega))
  have hs2 := Lib.hid (sealed_length (kind := j) (l := l2) (by omega))
  have hso1 := Lib.hid (sealed_octs (kind := j) hj ho1)
  have hsk1 := Lib.hid (kindOf_sealed (kind := j) (l := l1) (by omega))
  obtain ⟨PA, hPA0⟩ : ∃ PA, PA = (bv (splice (zs 123) 0 l1)).toArray := ⟨_, rfl⟩
  obtain ⟨QA, hQA0⟩ : ∃ QA, QA = (bv (splice (zs 123) 0 l2)).toArray := ⟨_, rfl⟩
  have hP0 : (splice (zs 123) 0 l1).length = 123 := by rw [splice_front (by omega), List.length_append, zs_length]; omega
  have hQ0 : (splice (zs 123) 0 l2).length = 123 := by rw [splice_front (by omega), List.length_append, zs_length]; omega
  obtain ⟨r, hr0⟩ : ∃ r, decide (sealed j l1 = sealed j l2) = r := ⟨_, rfl⟩
  have hr2 : decide (splice (zs 123) 0 l1 = splice (zs 123) 0 l2) = r := by
    rw [← hr0]
    simp only [sealed_same (k := j) (show l1.length ≤ 123 by omega) (show l2.length ≤ 123 by omega)]
  have hq : ∀ w, (Op.equalIn 10000 36 (.agg PA) (.agg QA)).run Try.prog w = .ok r w := by
    intro w
    rw [hPA0, hQA0, ← hr2]
    exact run_eq_bytes Try.underlying36 9998 w _ _ hP0 hQ0
  have hPA := Lib.hid (show Value.agg PA = .agg (bv (splice (zs 123) 0 l1)).toArray by rw [hPA0])
  have hQA := Lib.hid (show Value.agg QA = .agg (bv (splice (zs 123) 0 l2)).toArray by rw [hQA0])
  have hP1 := Lib.hid hP0
  have hQ1 := Lib.hid hQ0
  have hr1' := Lib.hid hr0
  clear hPA0 hQA0 hP0 hQ0 hr0 hr2
  have tok1 : True := trivial
  clear hn1 hn2 ho1 ho2 hx1 hx2
  go_enter Try.func5, Try.ntmps5
  go_wp2_with (first
    | (go_at_call_of 9 a1; refine (seal_n j a1 c1 l1 w hn1'.out hj0 hj ho1'.out h1 hx1'.out).mono ?_; rintro e w1 ⟨g1, rfl, hg1, hr1, hb1⟩; have B1 := Lib.hid ((Bag.start w).add hb1 hg1 hr1); clear hr1 hb1 hg1)
    | (go_at_call_of 9 a2; refine (seal_n j a2 c2 l2 w1 hn2'.out hj0 hj ho2'.out h2 (B1.out.arg hx2'.out)).mono ?_; rintro e w2 ⟨g2, rfl, hg2, hr2, hb2⟩; have B2 := Lib.hid (B1.out.add hb2 hg2 hr2); have u1 := B2.out.r1.lt; have u2 := B2.out.r0.lt; have u0 := B2.out.below.size; clear hr2 hb2 hg2)
    | (have _t := tok1; (with_reducible refine wpList_alloc_arr rfl rfl ?_); intro p1 w3 hp1 hgp1 hb3; have B3 := Lib.hid (B2.out.on hb3); have q1 := hp1.out.lt; have z3 := hb3.size; clear hb3 tok1 _t)
    | ((with_reducible refine wpList_alloc_arr rfl rfl ?_); intro p2 w4 hp2 hgp2 hb4; have B4 := Lib.hid (B3.out.on hb4); have V1 := Lib.hid (hp1.out.on hb4 q1); clear hb4)
    | (refine wpList_copy_vr rfl (.tmp 46) (.tmp 47) rfl 36 p1 123 123 a1 n1 c1 (zs 123) l1 rfl rfl hn1'.out V1.out (B4.out.arg hx1'.out) (by omega) (by rw [zs_length]; omega) ?_; intro w5 hv5 hg5; have B5 := Lib.hid (B4.out.grown2 hg5 u1 u2 u0 (fun k hk => by cases hk; exact hgp1)); have V2 := Lib.hid (hp2.out.grown hg5 (fun e => by cases e; omega)); clear hg5)
    | (refine wpList_copy_vr rfl (.tmp 49) (.tmp 50) rfl 36 p2 123 123 a2 n2 c2 (zs 123) l2 rfl rfl hn2'.out V2.out (B5.out.arg hx2'.out) (by omega) (by rw [zs_length]; omega) ?_; intro w6 hv6 hg6; have B6 := Lib.hid (B5.out.grown2 hg6 u1 u2 u0 (fun k hk => by cases hk; omega)); have V1b := Lib.hid (hv5.out.grown hg6 (fun e => by cases e; omega)); clear hg6)
    | (go_at_call 11; refine (open_good j (some ⟨g1, 0, none⟩) 128 128 _ w6 hs1.out hj0 hsk1.out hso1.out (by omega) B6.out.r1.bat).mono ?_; rintro e w7 ⟨g3, rfl, hg3, hr3, hb7⟩; have B7 := Lib.hid (B6.out.on hb7); have V1c := Lib.hid (V1b.out.on hb7 V1b.out.lt); have V2c := Lib.hid (hv6.out.on hb7 hv6.out.lt); clear hb7 hr3)
    | (go_at_call 13; refine (same_r (some ⟨g1, 0, none⟩) (some ⟨g2, 0, none⟩) _ _ 128 (sealed j l1) (sealed j l2) r w7 hs1.out hs2.out hr1'.out (by omega) B7.out.r1.bat B7.out.r0.bat).mono ?_; rintro e w8 ⟨rfl, hb8⟩; have B8 := Lib.hid (B7.out.on hb8); have V1d := Lib.hid (V1c.out.on hb8 V1c.out.lt); have V2d := Lib.hid (V2c.out.on hb8 V2c.out.lt); clear hb8)
    | (refine wpList_load_vr rfl (.tmp 13) rfl p1 _ rfl V1d.out hP1.out (.agg PA) hPA.out ?_)
    | (refine wpList_load_vr rfl (.tmp 14) rfl p2 _ rfl V2d.out hQ1.out (.agg QA) hQA.out ?_)
    | (go_at_call 7; refine (awake_any w8).mono ?_; rintro e w9 ⟨rfl, hb9⟩; have hend := Lib.hid (B8.out.low hb9); clear hb9))
  go_ret
  exact ⟨rfl, hend.out⟩

theorem apart_long (j k : Int) (a1 a2 : Option Addr) (c1 c2 n1 n2 : Nat) (w : World) (h : 123 < n1) :
    Calls Try.prog 5 #[.int .u8 j, .int .u8 k, .slice a1 n1 c1, .slice a2 n2 c2] w (Woke w) := by
  go_enter Try.func5, Try.ntmps5
  go_wp2_with (go_at_call 7; refine (awake_any _).mono ?_; rintro e w1 ⟨rfl, hb⟩)
  go_ret
  exact ⟨rfl, by assumption⟩
theorem apart_long2 (j k : Int) (a1 a2 : Option Addr) (c1 c2 n1 n2 : Nat) (w : World) (h1 : n1 ≤ 123) (h : 123 < n2) :
    Calls Try.prog 5 #[.int .u8 j, .int .u8 k, .slice a1 n1 c1, .slice a2 n2 c2] w (Woke w) := by
  go_enter Try.func5, Try.ntmps5
  go_wp2_with (go_at_call 7; refine (awake_any _).mono ?_; rintro e w1 ⟨rfl, hb⟩)
  go_ret
  exact ⟨rfl, by assumption⟩
theorem apart_zero (k : Int) (a1 a2 : Option Addr) (c1 c2 n1 n2 : Nat) (w : World) (h1 : n1 ≤ 123) (h2 : n2 ≤ 123) :
    Calls Try.prog 5 #[.int .u8 0, .int .u8 k, .slice a1 n1 c1, .slice a2 n2 c2] w (Woke w) := by
  go_enter Try.func5, Try.ntmps5
  go_wp2_with (go_at_call 7; refine (awake_any _).mono ?_; rintro e w1 ⟨rfl, hb⟩)
  go_ret
  exact ⟨rfl, by assumption⟩
theorem apart_zero2 (j : Nat) (a1 a2 : Option Addr) (c1 c2 n1 n2 : Nat) (w : World) (hj : 0 < j) (h1 : n1 ≤ 123) (h2 : n2 ≤ 123) :
    Calls Try.prog 5 #[.int .u8 (j : Int), .int .u8 0, .slice a1 n1 c1, .slice a2 n2 c2] w (Woke w) := by
  have t1 : ((j : Int) == 0) = false := by rw [beq_eq_false_iff_ne]; omega
  go_enter Try.func5, Try.ntmps5
  go_wp2_with (go_at_call 7; refine (awake_any _).mono ?_; rintro e w1 ⟨rfl, hb⟩)
  go_ret
  exact ⟨rfl, by assumption⟩
theorem apart_any (j k : Nat) (a1 a2 : Option Addr) (c1 c2 : Nat) (l1 l2 : List Nat) (w : World) (hj : j < 256) (hk : k < 256) (ho1 : Octs l1) (ho2 : Octs l2) (hx1 : BAt w a1 l1) (hx2 : BAt w a2 l2) :
    Calls Try.prog 5 #[.int .u8 (j : Int), .int .u8 (k : Int), .slice a1 l1.length c1, .slice a2 l2.length c2] w (Woke w) := by
  by_cases h1 : 123 < l1.length
  · exact apart_long _ _ a1 a2 c1 c2 _ _ w h1
  by_cases h2 : 123 < l2.length
  · exact apart_long2 _ _ a1 a2 c1 c2 _ _ w (by omega) h2
  by_cases h3 : j = 0
  · subst h3; exact apart_zero _ a1 a2 c1 c2 _ _ w (by omega) (by omega)
  by_cases h4 : k = 0
  · subst h4; exact apart_zero2 j a1 a2 c1 c2 _ _ w (by omega) (by omega) (by omega)
  by_cases h5 : j = k
  · subst h5; exact apart_eq j a1 a2 c1 c2 _ _ l1 l2 w hj (by omega) rfl rfl (by omega) (by omega) ho1 ho2 hx1 hx2
  · exact apart_ne j k a1 a2 c1 c2 _ _ l1 l2 w hj hk (by omega) (by omega) rfl rfl (by omega) (by omega) ho1 ho2 hx1 hx2 h5
end Go.Proofs.Ytghopfmidpobhaa
