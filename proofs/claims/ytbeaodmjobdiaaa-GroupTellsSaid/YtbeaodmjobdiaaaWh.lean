/-
  The sector of any bits, and what any bytes are read as, is the document's: the walk.
-/
import Derived.Test.YtbeaodmjobdiaaaWe
import Derived.Test.YtbeaodmjobdiaaaWf
import Derived.Test.YtbeaodmjobdiaaaWg
import Derived.Test.YtbeaodmjobdiaaaKb
namespace Go.Proofs.Ytbeaodmjobdiaaa
open Go.RowKit BigFrame

/-- what is laid of any bits, as one answer -/
def layX (p q : List Nat) (n m : Nat) : List Nat := if layMay n m = true then sealed 71 (bodyG p q) else []
def layC (n m : Nat) : Int := if layMay n m = true then 0 else 2
theorem layX_length {p q : List Nat} {n m : Nat} (hp : p.length = n) (hq : q.length = m) : (layX p q n m).length ≤ 100000 := by
  unfold layX
  split
  · rename_i h
    unfold layMay at h
    rw [decide_eq_true_eq] at h
    rw [sealed_length (by rw [bodyG_length (by omega)]; omega)]; omega
  · simp
theorem inoG_length (l : List Nat) (N M : Int) : (inoG l N M).length ≤ 100000 := by
  unfold inoG inoOf
  split
  · rw [List.length_take, List.length_take]; omega
  · simp
theorem blkG_length (l : List Nat) (N M : Int) : (blkG l N M).length ≤ 100000 := by
  unfold blkG blkOf
  split
  · rw [List.length_take, List.length_take]; omega
  · simp
def LayU (X : List Nat) (c : Int) (w : World) (e : Ending) (w' : World) : Prop := ∃ v, e = .returned (.tuple #[v, .int .i64 c]) ∧ Ans w w' v X ∧ Below w.heap.size w w'
def RefLayU (X : List Nat) (c : Int) (w : World) (e : Ending) (w' : World) : Prop := ∃ v, e = .returned (.tuple #[v, .int .i64 c]) ∧ BV w' v X ∧ Below w.heap.size w w'
theorem groupLay_u (a b : Option Addr) (ca cb n m : Nat) (p q X : List Nat) (c : Int) (w : World) (hX : layX p q n m = X) (hc : layC n m = c) (hp : p.length = n) (hq : q.length = m) (op : Octs p) (oq : Octs q) (xp : BAt w a p) (xq : BAt w b q) :
    Calls Try.prog 8 #[.slice a n ca, .slice b m cb] w (LayU X c w) := by
  subst hX; subst hc
  unfold layX layC
  cases h : layMay n m
  · exact (groupLay_no a b ca cb n m w h).mono fun e w' ⟨he, hw⟩ => ⟨_, he, .inl ⟨rfl, rfl⟩, hw ▸ Below.refl _ _⟩
  · refine (groupLay_ok a b ca cb n m p q w h hp hq op oq xp xq).mono fun e w' ⟨g, he, hg, hr, hb⟩ => ⟨_, he, .inr ⟨g, 128, rfl, ?_, hg, hr⟩, hb⟩
    unfold layMay at h
    rw [decide_eq_true_eq] at h
    show (sealed 71 (bodyG p q)).length = 128
    exact sealed_length (by rw [bodyG_length (by omega)]; omega)
theorem refGroupLay_u (a b : Option Addr) (ca cb n m : Nat) (p q X : List Nat) (c : Int) (w : World) (hX : layX p q n m = X) (hc : layC n m = c) (hp : p.length = n) (hq : q.length = m) (op : Octs p) (oq : Octs q) (xp : BAt w a p) (xq : BAt w b q) (np : a = none → ca = 0) (nq : b = none → cb = 0) :
    Calls Try.prog 9 #[.slice a n ca, .slice b m cb] w (RefLayU X c w) := by
  subst hX; subst hc
  unfold layX layC
  cases h : layMay n m
  · exact (refGroupLay_no a b ca cb n m w h).mono fun e w' ⟨he, hw⟩ => ⟨_, he, bv_nil _, hw ▸ Below.refl _ _⟩
  · refine (refGroupLay_ok a b ca cb n m p q w h hp hq op oq xp xq np nq).mono fun e w' ⟨g, cc, he, hg, hcc, hr, hb⟩ => ⟨_, he, ⟨_, 128, cc, rfl, ?_, hr⟩, hb⟩
    unfold layMay at h
    rw [decide_eq_true_eq] at h
    show (sealed 71 (bodyG p q)).length = 128
    exact sealed_length (by rw [bodyG_length (by omega)]; omega)

/-- three copies that were lent, below b; since w nothing that was there has turned -/
def Lent (w : World) (b g1 g2 g3 : Nat) (L1 L2 L3 : List Nat) (wx : World) : Prop :=
  (Row wx g1 L1 ∧ Row wx g2 L2 ∧ Row wx g3 L3) ∧ (g1 < b ∧ g2 < b ∧ g3 < b) ∧ Below w.heap.size w wx ∧ w.heap.size ≤ b ∧ b ≤ wx.heap.size
theorem Lent.low {w wx wy : World} {b g1 g2 g3 : Nat} {L1 L2 L3 : List Nat} (h : Lent w b g1 g2 g3 L1 L2 L3 wx) (hb : Below b wx wy) : Lent w b g1 g2 g3 L1 L2 L3 wy := by
  obtain ⟨⟨r1, r2, r3⟩, ⟨l1, l2, l3⟩, hw, hb1, hb2⟩ := h
  exact ⟨⟨r1.on hb l1, r2.on hb l2, r3.on hb l3⟩, ⟨l1, l2, l3⟩, hw.trans (hb.mono hb1), hb1, Nat.le_trans hb2 hb.size⟩
theorem Lent.on {w wx wy : World} {b g1 g2 g3 : Nat} {L1 L2 L3 : List Nat} (h : Lent w b g1 g2 g3 L1 L2 L3 wx) (hb : Below wx.heap.size wx wy) : Lent w b g1 g2 g3 L1 L2 L3 wy := h.low (hb.mono h.2.2.2.2)
theorem Lent.grown {w wx wy w0 w1 : World} {b g1 g2 g3 : Nat} {L1 L2 L3 X : List Nat} {v : Value} (h : Lent w b g1 g2 g3 L1 L2 L3 wx) (ha : Ans w0 w1 v X) (hb0 : b ≤ w0.heap.size) (hg : wx.grownBy wy v.ownBlock) : Lent w b g1 g2 g3 L1 L2 L3 wy :=
  h.low (grownBy_below hg h.2.2.2.2 (fun k hk => Nat.le_trans hb0 (ha.block k hk).1))
theorem ans_far {w0 w1 w2 w3 : World} {v v' : Value} {X Y : List Nat} (h1 : Ans w0 w1 v X) (h2 : Ans w2 w3 v' Y) (hs : w1.heap.size ≤ w2.heap.size) : ∀ k, v'.ownBlock = some k → some k ≠ v.ownBlock := fun k hk e => by
  have := (h2.block k hk).1
  have := (h1.block k e.symm).2
  omega

set_option maxHeartbeats 1000000 in
theorem groupTells_long (a1 a2 a3 : Option Addr) (c1 c2 c3 n1 n2 n3 : Nat) (N M : Int) (w : World) (h : 20 < n1 ∨ 20 < n2 ∨ 200 < n3) :
    Calls Try.prog 3 #[.slice a1 n1 c1, .slice a2 n2 c2, .slice a3 n3 c3, .int .i64 N, .int .i64 M] w (Tells (.bool true) w) := by
  by_cases h1 : 20 < n1
  · clear h
    go_enter Try.func3, Try.ntmps3
    go_wp2_with (go_at_call 6; refine (groupAwake_any _).mono ?_; rintro e w1 ⟨rfl, hb⟩; have hend := Lib.hid hb; clear hb)
    go_ret
    exact ⟨rfl, hend.out⟩
  · by_cases h2 : 20 < n2
    · clear h
      go_enter Try.func3, Try.ntmps3
      go_wp2_with (go_at_call 6; refine (groupAwake_any _).mono ?_; rintro e w1 ⟨rfl, hb⟩; have hend := Lib.hid hb; clear hb)
      go_ret
      exact ⟨rfl, hend.out⟩
    · have h3 : 200 < n3 := by omega
      clear h
      go_enter Try.func3, Try.ntmps3
      go_wp2_with (go_at_call 6; refine (groupAwake_any _).mono ?_; rintro e w1 ⟨rfl, hb⟩; have hend := Lib.hid hb; clear hb)
      go_ret
      exact ⟨rfl, hend.out⟩

set_option maxRecDepth 100000 in
set_option maxHeartbeats 2000000 in
theorem groupTells_main (a1 a2 a3 : Option Addr) (c1 c2 c3 n1 n2 n3 : Nat) (l1 l2 l3 : List Nat) (N M : Int) (w : World) (h1 : n1 ≤ 20) (h2 : n2 ≤ 20) (h3 : n3 ≤ 200)
    (e1 : l1.length = n1) (e2 : l2.length = n2) (e3 : l3.length = n3) (o1 : Octs l1) (o2 : Octs l2) (o3 : Octs l3) (k3 : n3 ≤ c3)
    (x1 : BAt w a1 l1) (x2 : BAt w a2 l2) (x3 : BAt w a3 l3) (z1 : a1 = none → c1 = 0) (z2 : a2 = none → c2 = 0) (z3 : a3 = none → c3 = 0) :
    Calls Try.prog 3 #[.slice a1 n1 c1, .slice a2 n2 c2, .slice a3 n3 c3, .int .i64 N, .int .i64 M] w (Tells (.bool true) w) := by
  obtain ⟨X, hX⟩ : ∃ X, layX l1 l2 n1 n2 = X := ⟨_, rfl⟩
  obtain ⟨C, hC⟩ : ∃ C, layC n1 n2 = C := ⟨_, rfl⟩
  obtain ⟨U, hU⟩ : ∃ U, inoG l3 N M = U := ⟨_, rfl⟩
  obtain ⟨V, hV⟩ : ∃ V, blkG l3 N M = V := ⟨_, rfl⟩
  obtain ⟨D, hD⟩ : ∃ D, codeG l3 N M = D := ⟨_, rfl⟩
  have LX := Lib.hid (show X.length ≤ 100000 from hX ▸ layX_length e1 e2)
  have LU := Lib.hid (show U.length ≤ 100000 from hU ▸ inoG_length _ _ _)
  have LV := Lib.hid (show V.length ≤ 100000 from hV ▸ blkG_length _ _ _)
  have HX := Lib.hid hX
  have HC := Lib.hid hC
  have HR := Lib.hid (show codeG l3 N M = D ∧ inoG l3 N M = U ∧ blkG l3 N M = V from ⟨hD, hU, hV⟩)
  have E1 := Lib.hid e1
  have E2 := Lib.hid e2
  have E3 := Lib.hid e3
  have O1 := Lib.hid o1
  have O2 := Lib.hid o2
  have O3 := Lib.hid o3
  have X1 := Lib.hid x1
  have X2 := Lib.hid x2
  have X3 := Lib.hid x3
  have Z1 := Lib.hid z1
  have Z2 := Lib.hid z2
  have Z3 := Lib.hid z3
  clear hX hC hU hV hD e1 e2 e3 o1 o2 o3 x1 x2 x3 z1 z2 z3
  go_enter Try.func3, Try.ntmps3
  go_wp2_with (first
    | (go_at_call_of 7 a1; refine (lend_any a1 c1 n1 l1 _ E1.out (by omega) X1.out Z1.out).mono ?_; rintro e wa ⟨gp, rfl, hgp, hrp, hba⟩; have Ra := Lib.hid hrp; have Ba := Lib.hid hba; clear hrp hba)
    | (go_at_call_of 7 a2; refine (lend_any a2 c2 n2 l2 _ E2.out (by omega) (X2.out.on Ba.out (Nat.le_refl _)) Z2.out).mono ?_; rintro e wb ⟨gq, rfl, hgq, hrq, hbb⟩; have Rb := Lib.hid hrq; have Ra2 := Lib.hid (Ra.out.on hbb Ra.out.lt); have Bb := Lib.hid (below_two Ba.out hbb); clear hrq hbb)
    | (go_at_call_of 7 a3; refine (lend_any a3 c3 n3 l3 _ E3.out (by omega) (X3.out.on Bb.out (Nat.le_refl _)) Z3.out).mono ?_; rintro e w3 ⟨gi, rfl, hgi, hri, hb3⟩; have T3 := Lib.hid (show Lent w w3.heap.size gp gq gi (marked l1) (marked l2) (marked l3) w3 from ⟨⟨Ra2.out.on hb3 Ra2.out.lt, Rb.out.on hb3 Rb.out.lt, hri⟩, ⟨Nat.lt_of_lt_of_le Ra2.out.lt hb3.size, Nat.lt_of_lt_of_le Rb.out.lt hb3.size, hri.lt⟩, below_two Bb.out hb3, (below_two Bb.out hb3).size, Nat.le_refl _⟩); clear hri hb3)
    | (go_at_call 8; refine (groupLay_u _ _ _ _ n1 n2 l1 l2 X C _ HX.out HC.out E1.out E2.out O1.out O2.out T3.out.1.1.bat_front T3.out.1.2.1.bat_front).mono ?_; rintro e w4 ⟨v1, rfl, hv, hb⟩; have A4 := Lib.hid hv; have T4 := Lib.hid (T3.out.on hb); clear hv hb)
    | (go_at_call 9; refine (refGroupLay_u a1 a2 c1 c2 n1 n2 l1 l2 X C _ HX.out HC.out E1.out E2.out O1.out O2.out (X1.out.on T4.out.2.2.1 (Nat.le_refl _)) (X2.out.on T4.out.2.2.1 (Nat.le_refl _)) Z1.out Z2.out).mono ?_; rintro e w5 ⟨v2, rfl, hv, hb⟩; have A5 := Lib.hid (A4.out.on hb); have Y5 := Lib.hid hv; have T5 := Lib.hid (T4.out.on hb); clear hv hb)
    | (go_at_call 10; refine (groupRead_r _ _ n3 N M D l3 U V _ HR.out E3.out O3.out (by omega) T5.out.1.2.2.bat_front).mono ?_; rintro e w6 ⟨v3, v4, rfl, hv3, hv4, hap, hb⟩; have A6 := Lib.hid (A5.out.on hb); have Y6 := Lib.hid (Y5.out.on hb); have U6 := Lib.hid (show Ans w5 w6 v3 U from hv3); have V6 := Lib.hid (show Ans w5 w6 v4 V from hv4); have P6 := Lib.hid hap; have T6 := Lib.hid (T5.out.on hb); clear hv3 hv4 hap hb)
    | (go_at_call 11; refine (refGroupRead_r a3 c3 n3 N M D l3 U V _ HR.out E3.out O3.out k3 (X3.out.on T6.out.2.2.1 (Nat.le_refl _))).mono ?_; rintro e w7 ⟨v5, v6, rfl, hv5, hv6, hb⟩; have A7 := Lib.hid (A6.out.on hb); have Y7 := Lib.hid (Y6.out.on hb); have U7 := Lib.hid (U6.out.on hb); have V7 := Lib.hid (V6.out.on hb); have M7 := Lib.hid hv5; have N7 := Lib.hid hv6; have T7 := Lib.hid (T6.out.on hb); clear hv5 hv6 hb)
    | (go_at_call_of 12 v1; refine (same_u v1 v2 X _ LX.out A7.out.bv Y7.out).mono ?_; rintro e w8 ⟨rfl, hb⟩; have A8 := Lib.hid (A7.out.on hb); have U8 := Lib.hid (U7.out.on hb); have V8 := Lib.hid (V7.out.on hb); have M8 := Lib.hid (M7.out.on hb); have N8 := Lib.hid (N7.out.on hb); have T8 := Lib.hid (T7.out.on hb); clear hb)
    | (go_at_call_of 12 v3; refine (same_u v3 v5 U _ LU.out U8.out.bv M8.out).mono ?_; rintro e w9 ⟨rfl, hb⟩; have A9 := Lib.hid (A8.out.on hb); have U9 := Lib.hid (U8.out.on hb); have V9 := Lib.hid (V8.out.on hb); have N9 := Lib.hid (N8.out.on hb); have T9 := Lib.hid (T8.out.on hb); clear hb)
    | (go_at_call_of 12 v4; refine (same_u v4 v6 V _ LV.out V9.out.bv N9.out).mono ?_; rintro e w10 ⟨rfl, hb⟩; have A10 := Lib.hid (A9.out.on hb); have U10 := Lib.hid (U9.out.on hb); have V10 := Lib.hid (V9.out.on hb); have T10 := Lib.hid (T9.out.on hb); clear hb)
    | (go_at_call_of 13 v1; refine (over_u v1 X _ LX.out A10.out).mono ?_; rintro e w11 ⟨rfl, hg⟩; have U11 := Lib.hid (U10.out.grown hg (ans_far A5.out U10.out (Nat.le_refl _))); have V11 := Lib.hid (V10.out.grown hg (ans_far A5.out V10.out (Nat.le_refl _))); have T11 := Lib.hid (T10.out.grown A10.out (Nat.le_refl _) hg); clear hg)
    | (go_at_call_of 13 v3; refine (over_u v3 U _ LU.out U11.out).mono ?_; rintro e w12 ⟨rfl, hg⟩; have V12 := Lib.hid (V11.out.grown hg P6.out); have T12 := Lib.hid (T11.out.grown U11.out T5.out.2.2.2.2 hg); clear hg)
    | (go_at_call_of 13 v4; refine (over_u v4 V _ LV.out V12.out).mono ?_; rintro e w13 ⟨rfl, hg⟩; have T13 := Lib.hid (T12.out.grown V12.out T5.out.2.2.2.2 hg); clear hg)
    | (go_at_call_of 14 a1; refine (kept_b gp c1 n1 a1 l1 _ E1.out (by omega) T13.out.1.1 (X1.out.on T13.out.2.2.1 (Nat.le_refl _))).mono ?_; rintro e w14 ⟨rfl, hb⟩; have T14 := Lib.hid (T13.out.on hb); clear hb)
    | (go_at_call_of 14 a2; refine (kept_b gq c2 n2 a2 l2 _ E2.out (by omega) T14.out.1.2.1 (X2.out.on T14.out.2.2.1 (Nat.le_refl _))).mono ?_; rintro e w15 ⟨rfl, hb⟩; have T15 := Lib.hid (T14.out.on hb); clear hb)
    | (go_at_call_of 14 a3; refine (kept_b gi c3 n3 a3 l3 _ E3.out (by omega) T15.out.1.2.2 (X3.out.on T15.out.2.2.1 (Nat.le_refl _))).mono ?_; rintro e w16 ⟨rfl, hb⟩; have T16 := Lib.hid (T15.out.on hb); clear hb)
    | (go_at_call 6; refine (groupAwake_any _).mono ?_; rintro e w17 ⟨rfl, hb⟩; have hend := Lib.hid (below_two T16.out.2.2.1 hb); clear hb))
  go_ret
  exact ⟨rfl, hend.out⟩
theorem groupTells_any (a1 a2 a3 : Option Addr) (c1 c2 c3 : Nat) (l1 l2 l3 : List Nat) (N M : Int) (w : World) (o1 : Octs l1) (o2 : Octs l2) (o3 : Octs l3) (k3 : l3.length ≤ c3)
    (x1 : BAt w a1 l1) (x2 : BAt w a2 l2) (x3 : BAt w a3 l3) (z1 : a1 = none → c1 = 0) (z2 : a2 = none → c2 = 0) (z3 : a3 = none → c3 = 0) :
    Calls Try.prog 3 #[.slice a1 l1.length c1, .slice a2 l2.length c2, .slice a3 l3.length c3, .int .i64 N, .int .i64 M] w (Tells (.bool true) w) := by
  by_cases h : 20 < l1.length ∨ 20 < l2.length ∨ 200 < l3.length
  · exact groupTells_long a1 a2 a3 c1 c2 c3 _ _ _ N M w h
  · exact groupTells_main a1 a2 a3 c1 c2 c3 _ _ _ l1 l2 l3 N M w (by omega) (by omega) (by omega) rfl rfl rfl o1 o2 o3 k3 x1 x2 x3 z1 z2 z3
end Go.Proofs.Ytbeaodmjobdiaaa
