/-
  Read for fewer inodes, or blocks, than it was laid for: the walk.
-/
import Derived.Test.YtbeaodmjobdiaaaWg
import Derived.Test.YtbeaodmjobdiaaaWm
import Derived.Test.YtbeaodmjobdiaaaLo
import Derived.Test.YtbeaodmjobdiaaaSi
import Derived.Test.YtbeaodmjobdiaaaIu
import Derived.Deep.DeepCutAuto
namespace Go.Proofs.Ytbeaodmjobdiaaa
open Go.RowKit BigFrame

/-- is the bit of i there, as the law asks it -/
def bitF (A : Int) (i : Nat) : Bool := bits .and .i64 (A / 2 ^ i) 1 == 1
def WidRel (A B : Int) (w : World) (g : Nat) (s t i : Value) (wr : World) : Prop :=
  ∃ k : Nat, k + g = 32 ∧ i = .int .i64 k ∧ TwoI wr w.heap.size s (pickN (bitF A) k).length (zl (pickN (bitF A) k)) t (triN (bitF B) k).length (zl (triN (bitF B) k)) ∧ Below w.heap.size w wr
theorem own_snoc {w : World} {base n : Nat} {v : Value} {L : List Nat} {x : Nat} {X : Int} (hX : X = (x : Int)) (hn : L.length = n) (h : OwnI w base v (n + 1) (joinI (zl L) n (fun _ => X))) : OwnI w base v (L ++ [x]).length (zl (L ++ [x])) := by
  subst hX; subst hn
  rw [List.length_append]
  refine OwnI.congr h fun p hp => ?_
  have hp : p < L.length + 1 := hp
  unfold joinI zl
  by_cases e : p < L.length
  · rw [if_pos e, bz_append_left e]
  · rw [if_neg e, bz_append_right (by omega)]
    have : p - L.length = 0 := by omega
    rw [this]; rfl

/-- none is there, or the last one, which is the greatest, lies there -/
theorem last_or {w : World} {a : Option Addr} {n m : Nat} {L : List Nat} {e : Bool} (hI : IntsAt w a n (zl L)) (hn : L.length = n) (hr : Rising L) (q1 : L = [] → e = true) (q3 : ∀ M y, L = M ++ [y] → (∀ i ∈ L, i ≤ y) → e = decide (y < m)) :
    (n = 0 ∧ e = true) ∨ ∃ q b off y, n = q + 1 ∧ a = some ⟨b, off, none⟩ ∧ w.cell? ⟨b, off + q, none⟩ = some (.int .i64 ((y : Nat) : Int)) ∧ e = decide (y < m) := by
  rcases hr with h | ⟨M, y, h, hy⟩
  · exact .inl ⟨by rw [← hn, h]; rfl, q1 h⟩
  · have hl : n = M.length + 1 := by rw [← hn, h, List.length_append]; rfl
    rcases hI with h0 | ⟨b, off, ha, hc⟩
    · omega
    · refine .inr ⟨M.length, b, off, y, hl, ha, ?_, q3 M y h hy⟩
      rw [hc _ (by omega)]
      unfold zl
      rw [h, bz_append_right (Nat.le_refl _), Nat.sub_self]
      rfl

set_option maxRecDepth 100000 in
set_option maxHeartbeats 2000000 in
theorem groupWidths_any (A B N M : Int) (w : World) :
    Calls Try.prog 5 #[.int .i64 A, .int .i64 B, .int .i64 N, .int .i64 M] w (Tells (.bool true) w) := by
  go_enter Try.func5, Try.ntmps5
  go_wp2_with (first
    | (go_at_call_of 15 N
       refine (low_c N _ 29 _ rfl (by omega) (by omega)).mono ?_
       rintro e w1 ⟨i8, hi8, rfl, rfl⟩
       obtain ⟨n, hn⟩ : ∃ n, 4 + i8 = n := ⟨_, rfl⟩
       have f1 : (4 : Int) + (i8 : Int) = (n : Int) := by omega
       have f3 : IntKind.i64.wrap (n : Int) = (n : Int) := wrap_in (by omega)
       have b1 : 4 ≤ n := by omega
       have b2 : n ≤ 32 := by omega
       clear hi8 hn)
    | (go_at_call_of 15 M
       refine (low_c M _ 81 _ rfl (by omega) (by omega)).mono ?_
       rintro e w1 ⟨j, hj, rfl, rfl⟩
       obtain ⟨m, hm⟩ : ∃ m, 16 + j = m := ⟨_, rfl⟩
       have f4 : (16 : Int) + (j : Int) = (m : Int) := by omega
       have f5 : IntKind.i64.wrap (m : Int) = (m : Int) := wrap_in (by omega)
       have b3 : 16 ≤ m := by omega
       have b4 : m ≤ 96 := by omega
       clear hj hm))
  go_loopg [9, 10, 11] 32 (fun g s t i wr => WidRel A B w g s t i wr)
  case atStart => exact ⟨0, by omega, rfl, ⟨OwnI.nil _ _ _, OwnI.nil _ _ _, fun k h => by cases h⟩, Below.refl _ _⟩
  case round =>
    obtain ⟨k, hg, rfl, hT, hB⟩ := hrel
    by_cases hlt : k < 32
    · obtain ⟨g, rfl⟩ : ∃ g, gk = g + 1 := ⟨gk - 1, by omega⟩
      obtain ⟨q, hq⟩ : ∃ q, 3 * k = q := ⟨_, rfl⟩
      have f6 : (3 : Int) * (k : Int) = (q : Int) := by omega
      have f7 : IntKind.i64.wrap (q : Int) = (q : Int) := wrap_in (by omega)
      have z1 := pick_length (bitF A) k
      have z2 := tri_length (bitF B) k
      have y1 := fun h : bitF A k = true => pick_yes h
      have x1 := fun h : bitF A k = false => pick_no h
      have y2 := fun h : bitF B k = true => tri_yes h
      have x2 := fun h : bitF B k = false => tri_no h
      obtain ⟨L1, hL1⟩ : ∃ L1, pickN (bitF A) k = L1 := ⟨_, rfl⟩
      obtain ⟨L2, hL2⟩ : ∃ L2, triN (bitF B) k = L2 := ⟨_, rfl⟩
      rw [hL1] at hT z1 y1 x1
      rw [hL2] at hT z2 y2 x2
      rw [hq] at y2
      obtain ⟨n1, hn1⟩ : ∃ n1, L1.length = n1 := ⟨_, rfl⟩
      obtain ⟨n2, hn2⟩ : ∃ n2, L2.length = n2 := ⟨_, rfl⟩
      have T0 := Lib.hid hT
      rw [hn1] at hT z1
      rw [hn2] at hT z2
      have T := Lib.hid hT
      have B0 := Lib.hid hB
      have Y1 := Lib.hid y1
      have Y2 := Lib.hid y2
      have N1 := Lib.hid x1
      have N2 := Lib.hid x2
      have H1 := Lib.hid hn1
      have H2 := Lib.hid hn2
      clear hL1 hL2 hT hB y1 y2 x1 x2 hn1 hn2 hq
      cases hF : bitF A k
      · have P1 := Lib.hid (N1.out hF)
        cases hG : bitF B k
        · have P2 := Lib.hid (N2.out hG)
          unfold bitF at hF hG
          go_wp2_with fail
          go_roundg g
          case measure => omega
          case rel => exact ⟨k + 1, by omega, by go_num, by rw [P1.out, P2.out]; exact T0.out, B0.out⟩
        · have P2 := Lib.hid (Y2.out hG)
          unfold bitF at hF hG
          have T1 := Lib.hid (T.out.alloc (.cells #[.int .i64 (q : Int)] 3))
          have B1 := Lib.hid (B0.out.alloc B0.out.size (.cells #[.int .i64 (q : Int)] 3))
          have I1 := Lib.hid (int_new wr (q : Int) 3)
          go_wp2_with (at_builtin; refine wpList_append_ints_at rfl (.tmp 42) (.tmp 45) rfl w.heap.size n2 _ (zl L2) rfl T1.out.2.1 ⟨wr.heap.size, 0, none⟩ 1 1 (fun _ => (q : Int)) rfl I1.out (by omega) B1.out.size ?_; intro v2 w2 ho2 hg2 hat2 hb2; have B2 := Lib.hid (B1.out.trans hb2); have T2 := Lib.hid (T1.out.grow2 ho2.out hg2 hat2); clear ho2 hg2 hat2 hb2)
          go_roundg g
          case measure => omega
          case rel => exact ⟨k + 1, by omega, by go_num, by rw [P1.out, P2.out, H1.out]; exact ⟨T2.out.1, own_snoc rfl H2.out T2.out.2.1, T2.out.2.2⟩, B2.out⟩
      · have P1 := Lib.hid (Y1.out hF)
        have T1 := Lib.hid (T.out.alloc (.cells #[.int .i64 (k : Int)] 3))
        have B1 := Lib.hid (B0.out.alloc B0.out.size (.cells #[.int .i64 (k : Int)] 3))
        have I1 := Lib.hid (int_new wr (k : Int) 3)
        cases hG : bitF B k
        · have P2 := Lib.hid (N2.out hG)
          unfold bitF at hF hG
          go_wp2_with (at_builtin; refine wpList_append_ints_at rfl (.tmp 33) (.tmp 35) rfl w.heap.size n1 _ (zl L1) rfl T1.out.1 ⟨wr.heap.size, 0, none⟩ 1 1 (fun _ => (k : Int)) rfl I1.out (by omega) B1.out.size ?_; intro v2 w2 ho2 hg2 hat2 hb2; have B2 := Lib.hid (B1.out.trans hb2); have T2 := Lib.hid (T1.out.grow1 ho2.out hg2 hat2); clear ho2 hg2 hat2 hb2)
          go_roundg g
          case measure => omega
          case rel => exact ⟨k + 1, by omega, by go_num, by rw [P1.out, P2.out, H2.out]; exact ⟨own_snoc rfl H1.out T2.out.1, T2.out.2.1, by exact T2.out.2.2⟩, B2.out⟩
        · have P2 := Lib.hid (Y2.out hG)
          unfold bitF at hF hG
          go_wp2_with (first
            | (at_builtin; refine wpList_append_ints_at rfl (.tmp 33) (.tmp 35) rfl w.heap.size n1 _ (zl L1) rfl T1.out.1 ⟨wr.heap.size, 0, none⟩ 1 1 (fun _ => (k : Int)) rfl I1.out (by omega) B1.out.size ?_; intro v2 w2 ho2 hg2 hat2 hb2; have B2 := Lib.hid ((B1.out.trans hb2).alloc (B1.out.trans hb2).size (.cells #[.int .i64 (q : Int)] 3)); have T2 := Lib.hid ((T1.out.grow1 ho2.out hg2 hat2).alloc (.cells #[.int .i64 (q : Int)] 3)); have I2 := Lib.hid (int_new w2 (q : Int) 3); clear ho2 hg2 hat2 hb2)
            | (at_builtin; refine wpList_append_ints_at rfl (.tmp 42) (.tmp 45) rfl w.heap.size n2 _ (zl L2) rfl T2.out.2.1 ⟨w2.heap.size, 0, none⟩ 1 1 (fun _ => (q : Int)) rfl I2.out (by omega) B2.out.size ?_; intro v3 w3 ho3 hg3 hat3 hb3; have B3 := Lib.hid (B2.out.trans hb3); have T3 := Lib.hid (T2.out.grow2 ho3.out hg3 hat3); clear ho3 hg3 hat3 hb3))
          go_roundg g
          case measure => omega
          case rel => exact ⟨k + 1, by omega, by go_num, by rw [P1.out, P2.out]; exact ⟨own_snoc rfl H1.out T3.out.1, own_snoc rfl H2.out T3.out.2.1, T3.out.2.2⟩, B3.out⟩
    · obtain rfl : k = 32 := by omega
      have r1 := pick_rising (bitF A) 32
      have r2 := tri_rising (bitF B) 32
      have d1 : ∀ y, y ∈ pickN (bitF A) 32 → y < 32 := fun y hy => (mem_pick.1 hy).1
      have d2 : ∀ y, y ∈ triN (bitF B) 32 → y < 96 := fun y hy => by
        obtain ⟨j, hj, _, rfl⟩ := mem_tri.1 hy; omega
      have g1 := asB_pick (bitF A) 32
      have g2 : allN (asB 96 (triN (bitF B) 32)) 96 = triN (bitF B) 32 := asB_tri (bitF B) 32
      have z1 := pick_length (bitF A) 32
      have z2 := tri_length (bitF B) 32
      obtain ⟨L1, hL1⟩ : ∃ L1, pickN (bitF A) 32 = L1 := ⟨_, rfl⟩
      obtain ⟨L2, hL2⟩ : ∃ L2, triN (bitF B) 32 = L2 := ⟨_, rfl⟩
      rw [hL1] at r1 d1 g1 z1 hT
      rw [hL2] at r2 d2 g2 z2 hT
      obtain ⟨n1, hn1⟩ : ∃ n1, L1.length = n1 := ⟨_, rfl⟩
      obtain ⟨n2, hn2⟩ : ∃ n2, L2.length = n2 := ⟨_, rfl⟩
      have lX : (asB 32 L1).length = 4 := asB_length _ _
      have lY : (asB 96 L2).length = 12 := asB_length _ _
      have oX := asB_octs 32 L1
      have oY := asB_octs 96 L2
      have k1 := fun h => all_back (L := L1) (k := 32) (m := n) b2 g1 h
      have k2 := fun h => all_back (L := L2) (k := 96) (m := m) b4 g2 h
      have s1 : setsN 32 (zl L1) n1 = asB 32 L1 := by rw [← hn1]; rfl
      have s2 : setsN 96 (zl L2) n2 = asB 96 L2 := by rw [← hn2]; rfl
      have q1 : (L1 = [] → endsN (asB 32 L1) n = true) := fun h => by rw [h]; exact asB_none _ _
      have q2 : (L2 = [] → endsN (asB 96 L2) m = true) := fun h => by rw [h]; exact asB_none _ _
      have q3 : ∀ M y, L1 = M ++ [y] → (∀ i ∈ L1, i ≤ y) → endsN (asB 32 L1) n = decide (y < n) := fun M y h hy => by
        by_cases e : y < n
        · rw [asB_below h hy e, decide_eq_true e]
        · rw [asB_beyond h (d1 y (by rw [h]; simp)) e, decide_eq_false e]
      have q4 : ∀ M y, L2 = M ++ [y] → (∀ i ∈ L2, i ≤ y) → endsN (asB 96 L2) m = decide (y < m) := fun M y h hy => by
        by_cases e : y < m
        · rw [asB_below h hy e, decide_eq_true e]
        · rw [asB_beyond h (d2 y (by rw [h]; simp)) e, decide_eq_false e]
      have hmay : readMay (n : Int) (m : Int) = true := by unfold readMay; rw [decide_eq_true_eq]; omega
      obtain ⟨X, hX⟩ : ∃ X, asB 32 L1 = X := ⟨_, rfl⟩
      obtain ⟨Y, hY⟩ : ∃ Y, asB 96 L2 = Y := ⟨_, rfl⟩
      rw [hX] at lX oX k1 s1 q1 q3
      rw [hY] at lY oY k2 s2 q2 q4
      have lL := laid_length (p := X) (q := Y) (by omega) (by omega)
      have oL := laid_octs oX oY
      have c1 := laid_code (p := X) (q := Y) hmay (by omega) (by omega)
      have c2 := laid_bits (p := X) (q := Y) hmay (by omega) (by omega)
      rw [lX, lY] at c2
      have p1 : X ++ zs (4 - 4) = X := List.append_nil _
      have p2 : Y ++ zs (12 - 12) = Y := List.append_nil _
      rw [p1, p2] at c2
      obtain ⟨L, hL⟩ : ∃ L, laidG X Y = L := ⟨_, rfl⟩
      rw [hL] at lL oL c1 c2
      obtain ⟨x8, hx8⟩ : ∃ x8, x8 = (n + 7) / 8 := ⟨_, rfl⟩
      obtain ⟨y8, hy8⟩ : ∃ y8, y8 = (m + 7) / 8 := ⟨_, rfl⟩
      rw [← hx8] at k1 c2
      rw [← hy8] at k2 c2
      obtain ⟨e1, he1⟩ : ∃ e1, endsN X n = e1 := ⟨_, rfl⟩
      obtain ⟨e2, he2⟩ : ∃ e2, endsN Y m = e2 := ⟨_, rfl⟩
      rw [he1] at k1 q1 q3 c1 c2
      rw [he2] at k2 q2 q4 c1 c2
      obtain ⟨D, hD⟩ : ∃ D, codeG L n m = D := ⟨_, rfl⟩
      obtain ⟨U, hU⟩ : ∃ U, inoG L n m = U := ⟨_, rfl⟩
      obtain ⟨V, hV⟩ : ∃ V, blkG L n m = V := ⟨_, rfl⟩
      rw [hD] at c1
      rw [hU, hV] at c2
      obtain ⟨a1, cap1, rfl, i1, _, _, _, _⟩ := hT.1.slice
      obtain ⟨a2, cap2, rfl, i2, _, _, _, _⟩ := hT.2.1.slice
      rw [hn1] at i1 z1 ⊢
      rw [hn2] at i2 z2 ⊢
      have I1 := Lib.hid i1
      have I2 := Lib.hid i2
      have B0 := Lib.hid hB
      have R1 := Lib.hid r1
      have R2 := Lib.hid r2
      have S1 := Lib.hid s1
      have S2 := Lib.hid s2
      have Q1 := Lib.hid q1
      have Q2 := Lib.hid q2
      have Q3 := Lib.hid q3
      have Q4 := Lib.hid q4
      have K1 := Lib.hid k1
      have K2 := Lib.hid k2
      have C1 := Lib.hid c1
      have C2 := Lib.hid c2
      have LX := Lib.hid lX
      have LY := Lib.hid lY
      have OX := Lib.hid oX
      have OY := Lib.hid oY
      have LL := Lib.hid lL
      have OL := Lib.hid oL
      have HL := Lib.hid (show sealed 71 (bodyG X Y) = L from hL)
      have HR := Lib.hid (show codeG L n m = D ∧ inoG L n m = U ∧ blkG L n m = V from ⟨hD, hU, hV⟩)
      have N1 := Lib.hid hn1
      have N2 := Lib.hid hn2
      have X8 := Lib.hid hx8
      have Y8 := Lib.hid hy8
      clear hL1 hL2 hn1 hn2 lX lY oX oY k1 k2 s1 s2 q1 q2 q3 q4 hmay hX hY lL oL c1 c2 p1 p2 hL hx8 hy8 he1 he2 hD hU hV i1 i2 hB hT r1 r2 d1 d2 g1 g2
      go_upto_region 12 with (first
        | (go_at_call_of 16 a1; refine (of_is _ _ 32 n1 4 _ (zl L1) X _ S1.out rfl (by omega) (by omega) (by omega) I1.out).mono ?_; rintro e w1 ⟨gx, rfl, hgx, hr, hb⟩; have B1 := Lib.hid (B0.out.trans (hb.mono B0.out.size)); have J1 := Lib.hid (I1.out.on hb rfl); have J2 := Lib.hid (I2.out.on hb rfl); have G1 := Lib.hid hr; clear hr hb)
        | (go_at_call_of 16 a2; refine (of_is _ _ 96 n2 12 _ (zl L2) Y _ S2.out rfl (by omega) (by omega) (by omega) J2.out).mono ?_; rintro e w2 ⟨gy, rfl, hgy, hr, hb⟩; have B2 := Lib.hid (below_two B1.out hb); have J3 := Lib.hid (J1.out.on hb rfl); have J4 := Lib.hid (J2.out.on hb rfl); have G2 := Lib.hid (G1.out.on hb G1.out.lt); have Y2 := Lib.hid hr; clear hr hb)
        | (go_at_call 8; refine (groupLay_c _ _ _ _ 4 12 X Y L _ HL.out (by decide) LX.out LY.out OX.out OY.out G2.out.bat Y2.out.bat).mono ?_; rintro e w3 ⟨g3, rfl, hg3, hr, hb⟩; have B3 := Lib.hid (below_two B2.out hb); have J5 := Lib.hid (J3.out.on hb rfl); have J6 := Lib.hid (J4.out.on hb rfl); have L3 := Lib.hid hr; clear hr hb)
        | (go_at_call 10; refine (groupRead_r _ _ 128 n m D L U V _ HR.out LL.out OL.out (by decide) L3.out.bat).mono ?_; rintro e w4 ⟨v1, v2, rfl, hv1, hv2, _, hb⟩; have B4 := Lib.hid (below_two B3.out hb); have J7 := Lib.hid (J5.out.on hb rfl); have J8 := Lib.hid (J6.out.on hb rfl); have A1 := Lib.hid (show Ans w3 w4 v1 U from hv1); have A2 := Lib.hid (show Ans w3 w4 v2 V from hv2); clear hv1 hv2 hb))
      have H1 := Lib.hid (last_or J7.out N1.out R1.out Q1.out Q3.out)
      have H2 := Lib.hid (last_or J8.out N2.out R2.out Q2.out Q4.out)
      go_cut [17] (fun v wx => v = .bool (e1 && e2) ∧ w4 = wx)
      case first =>
        rcases H1.out with ⟨hz, he⟩ | ⟨q, b, off, y, hz, ha, hc, he⟩
        · have t1 : ((n1 : Int) == 0) = true := by rw [beq_iff_eq]; omega
          subst he
          clear hz
          rcases H2.out with ⟨hz, he⟩ | ⟨q, b, off, y, hz, ha, hc, he⟩
          · have t2 : ((n2 : Int) == 0) = true := by rw [beq_iff_eq]; omega
            subst he
            clear hz
            go_wp2_with fail
            go_meet
            exact ⟨rfl, rfl⟩
          · subst ha
            have t2 : ((n2 : Int) == 0) = false := by rw [beq_eq_false_iff_ne]; omega
            have g2a : (n2 : Int) - 1 = (q : Int) := by omega
            have g2b : q < n2 := by omega
            have g2c : IntKind.i64.wrap (q : Int) = (q : Int) := wrap_in (by omega)
            have h2 := hc
            by_cases hy : y < m
            · obtain rfl : e2 = true := by rw [he, decide_eq_true hy]
              have hy2 := hy
              clear he hz hc hy
              go_wp2_with fail
              go_meet
              exact ⟨rfl, rfl⟩
            · obtain rfl : e2 = false := by rw [he, decide_eq_false hy]
              have hy2 := hy
              clear he hz hc hy
              go_wp2_with fail
              go_meet
              exact ⟨rfl, rfl⟩
        · subst ha
          have t1 : ((n1 : Int) == 0) = false := by rw [beq_eq_false_iff_ne]; omega
          have g1a : (n1 : Int) - 1 = (q : Int) := by omega
          have g1b : q < n1 := by omega
          have g1c : IntKind.i64.wrap (q : Int) = (q : Int) := wrap_in (by omega)
          have h1 := hc
          by_cases hy : y < n
          · obtain rfl : e1 = true := by rw [he, decide_eq_true hy]
            have hy1 := hy
            clear he hz hc hy
            rcases H2.out with ⟨hz, he⟩ | ⟨q, b, off, y, hz, ha, hc, he⟩
            · have t2 : ((n2 : Int) == 0) = true := by rw [beq_iff_eq]; omega
              subst he
              clear hz
              go_wp2_with fail
              go_meet
              exact ⟨rfl, rfl⟩
            · subst ha
              have t2 : ((n2 : Int) == 0) = false := by rw [beq_eq_false_iff_ne]; omega
              have g2a : (n2 : Int) - 1 = (q : Int) := by omega
              have g2b : q < n2 := by omega
              have g2c : IntKind.i64.wrap (q : Int) = (q : Int) := wrap_in (by omega)
              have h2 := hc
              by_cases hy : y < m
              · obtain rfl : e2 = true := by rw [he, decide_eq_true hy]
                have hy2 := hy
                clear he hz hc hy
                go_wp2_with fail
                go_meet
                exact ⟨rfl, rfl⟩
              · obtain rfl : e2 = false := by rw [he, decide_eq_false hy]
                have hy2 := hy
                clear he hz hc hy
                go_wp2_with fail
                go_meet
                exact ⟨rfl, rfl⟩
          · obtain rfl : e1 = false := by rw [he, decide_eq_false hy]
            have hy1 := hy
            clear he hz hc hy
            go_wp2_with fail
            go_meet
            exact ⟨rfl, rfl⟩
      case rest =>
        obtain ⟨rfl, rfl⟩ := hcut
        obtain ⟨ft, hft⟩ : ∃ ft, (e1 && e2) = ft := ⟨_, rfl⟩
        rw [hft]
        cases ft
        · obtain rfl : D = 3 := by rw [C1.out, hft]; rfl
          clear hft
          go_wp2_with (go_at_call 6; refine (groupAwake_any _).mono ?_; rintro e w12 ⟨rfl, hb⟩; have hend := Lib.hid (below_two B4.out hb); clear hb)
          go_ret
          exact ⟨rfl, hend.out⟩
        · obtain rfl : D = 0 := by rw [C1.out, hft]; rfl
          obtain ⟨he1, he2⟩ : e1 = true ∧ e2 = true := by simpa using hft
          obtain ⟨rfl, rfl⟩ := C2.out he1 he2
          have M1 := Lib.hid (K1.out he1)
          have M2 := Lib.hid (K2.out he2)
          obtain ⟨P, hP⟩ : ∃ P, P = n + 7 := ⟨_, rfl⟩
          obtain ⟨R, hR⟩ : ∃ R, R = m + 7 := ⟨_, rfl⟩
          have hx8 := X8.out
          have hy8 := Y8.out
          have f11 : (n : Int) + 7 = (P : Int) := by omega
          have f12 : (m : Int) + 7 = (R : Int) := by omega
          have f13 : IntKind.i64.wrap (P : Int) = (P : Int) := wrap_in (by omega)
          have f14 : IntKind.i64.wrap (R : Int) = (R : Int) := wrap_in (by omega)
          have f15 : (P : Int) / 8 = (x8 : Int) := by omega
          have f16 : (R : Int) / 8 = (y8 : Int) := by omega
          have f17 : IntKind.i64.wrap (x8 : Int) = (x8 : Int) := wrap_in (by omega)
          have f18 : IntKind.i64.wrap (y8 : Int) = (y8 : Int) := wrap_in (by omega)
          have LU := Lib.hid (show (X.take x8).length = x8 by rw [List.length_take, LX.out]; omega)
          have LV := Lib.hid (show (Y.take y8).length = y8 by rw [List.length_take, LY.out]; omega)
          have OU := Lib.hid (OX.out.take x8)
          have OV := Lib.hid (OY.out.take y8)
          obtain ⟨g5, rfl, r5⟩ : ∃ g, v1 = .slice (some ⟨g, 0, none⟩) x8 x8 ∧ Row w4 g (X.take x8) := by
            rcases A1.out with ⟨_, h⟩ | ⟨g, k, h1, h2, _, h3⟩
            · have h4 := LU.out
              rw [h] at h4
              simp at h4
              omega
            · obtain rfl : k = x8 := by rw [← h2]; exact LU.out
              exact ⟨g, h1, h3⟩
          obtain ⟨g6, rfl, r6⟩ : ∃ g, v2 = .slice (some ⟨g, 0, none⟩) y8 y8 ∧ Row w4 g (Y.take y8) := by
            rcases A2.out with ⟨_, h⟩ | ⟨g, k, h1, h2, _, h3⟩
            · have h4 := LV.out
              rw [h] at h4
              simp at h4
              omega
            · obtain rfl : k = y8 := by rw [← h2]; exact LV.out
              exact ⟨g, h1, h3⟩
          have R5 := Lib.hid r5
          have R6 := Lib.hid r6
          have cN1 := Lib.hid (show countN (X.take x8) n = n1 by unfold countN; rw [M1.out]; exact N1.out)
          have cN2 := Lib.hid (show countN (Y.take y8) m = n2 by unfold countN; rw [M2.out]; exact N2.out)
          have x8l : x8 ≤ 4 := by omega
          have y8l : y8 ≤ 12 := by omega
          clear hft he1 he2 r5 r6 hP hR hx8 hy8
          have tk1 : True := trivial
          go_wp2_with (first
            | (go_at_call_of 18 g5; refine (all_c _ _ x8 n _ (X.take x8) _ rfl OU.out LU.out (by omega) R5.out.bat (by omega)).mono ?_; rintro e w5 ⟨v5, rfl, ho, hb⟩; rw [cN1.out, M1.out] at ho; obtain ⟨a5, c5, rfl, hI, _, _, _, _⟩ := ho.slice; have I5 := Lib.hid hI; have B5 := Lib.hid (below_two B4.out hb); have J9 := Lib.hid (J7.out.on hb rfl); have J10 := Lib.hid (J8.out.on hb rfl); have Q6 := Lib.hid (R6.out.on hb R6.out.lt); clear ho hb hI)
            | (clear tk1; go_at_call 19; refine (sameI_any a5 a1 _ _ n1 (zl L1) (zl L1) _ (by omega) I5.out J9.out (fun _ _ => rfl)).mono ?_; rintro e w6 ⟨rfl, hb⟩; have B6 := Lib.hid (below_two B5.out hb); have J11 := Lib.hid (J10.out.on hb rfl); have Q7 := Lib.hid (Q6.out.on hb Q6.out.lt); clear hb)
            | (go_at_call_of 18 g6; refine (all_c _ _ y8 m _ (Y.take y8) _ rfl OV.out LV.out (by omega) Q7.out.bat (by omega)).mono ?_; rintro e w7 ⟨v7, rfl, ho, hb⟩; rw [cN2.out, M2.out] at ho; obtain ⟨a7, c7, rfl, hI, _, _, _, _⟩ := ho.slice; have I7 := Lib.hid hI; have B7 := Lib.hid (below_two B6.out hb); have J12 := Lib.hid (J11.out.on hb rfl); clear ho hb hI)
            | (go_at_call 19; refine (sameI_any a7 a2 _ _ n2 (zl L2) (zl L2) _ (by omega) I7.out J12.out (fun _ _ => rfl)).mono ?_; rintro e w8 ⟨rfl, hb⟩; have B8 := Lib.hid (below_two B7.out hb); clear hb)
            | (go_at_call 6; refine (groupAwake_any _).mono ?_; rintro e w12 ⟨rfl, hb⟩; have hend := Lib.hid (below_two B8.out hb); clear hb))
          go_ret
          exact ⟨rfl, hend.out⟩
end Go.Proofs.Ytbeaodmjobdiaaa
