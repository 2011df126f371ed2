/-
  The law on Mean, walked.
-/
import Derived.Test.YtokpdcelfanbpaaDoorNumbers
import Derived.Maps.AppendAt
namespace Go.Proofs.YtokpdcelfanbpaaDoor
open Go.RowKit Fl

/-- the k-th number, below 1,000 -/
def mv (zs : List Int) (k : Nat) : Nat := (lowN (zi zs k) 1000).toNat
theorem mv_eq (zs : List Int) (k : Nat) : lowN (zi zs k) 1000 = (mv zs k : Int) := by
  have := lowN_bd (zi zs k) (show (0 : Int) < 1000 by decide)
  unfold mv; omega
theorem mv_lt (zs : List Int) (k : Nat) : mv zs k < 1000 := by
  have := lowN_bd (zi zs k) (show (0 : Int) < 1000 by decide)
  unfold mv; omega
/-- the first k of them, as floats -/
def mXs (zs : List Int) (k : Nat) : List Nat := (List.range k).map fun j => ofN (mv zs j)
def mCells (zs : List Int) (k : Nat) : List Value := (mXs zs k).map (Value.float .f64)
def yXs (v k : Nat) : List Nat := List.replicate k (ofN v)
def yCells (v k : Nat) : List Value := (yXs v k).map (Value.float .f64)
theorem mCells_succ (zs : List Int) (k : Nat) : mCells zs (k + 1) = mCells zs k ++ [.float .f64 (ofN (mv zs k))] := by
  simp [mCells, mXs, List.range_succ]
theorem yCells_succ (v k : Nat) : yCells v (k + 1) = yCells v k ++ [.float .f64 (ofN v)] := by
  simp [yCells, yXs, List.replicate_succ']
theorem mXs_length (zs : List Int) (k : Nat) : (mXs zs k).length = k := by simp [mXs]
theorem yXs_length (v k : Nat) : (yXs v k).length = k := by simp [yXs]
theorem mXs_fl (zs : List Int) {k j : Nat} (h : j < k) : fl (mXs zs k) j = ofN (mv zs j) := by
  unfold fl mXs
  rw [List.getD_eq_getElem?_getD, List.getElem?_map, List.getElem?_range h]
  exact Option.getD_some
theorem yXs_fl (v : Nat) {k j : Nat} (h : j < k) : fl (yXs v k) j = ofN v := by
  unfold fl yXs
  rw [List.getD_eq_getElem?_getD, List.getElem?_replicate, if_pos h]
  exact Option.getD_some
theorem ofN_fits {n : Nat} (h : n < 2 ^ 53) : Fits (ofN n) := (fits_fin_pos (ofN_fin h).1)

/-- the least and the greatest of the first k -/
def loOf (zs : List Int) : Nat → Nat
  | 0 => 1000
  | k + 1 => min (loOf zs k) (mv zs k)
def hiOf (zs : List Int) : Nat → Nat
  | 0 => 0
  | k + 1 => max (hiOf zs k) (mv zs k)
/-- the sum of the first k -/
def totOf (zs : List Int) : Nat → Nat
  | 0 => 0
  | k + 1 => totOf zs k + mv zs k
theorem bounds (zs : List Int) (k : Nat) : loOf zs k ≤ 1000 ∧ hiOf zs k < 1000 ∧ totOf zs k ≤ 1000 * k ∧ k * loOf zs k ≤ totOf zs k ∧ totOf zs k ≤ k * hiOf zs k := by
  induction k with
  | zero => simp [loOf, hiOf, totOf]
  | succ k ih =>
    have := mv_lt zs k
    obtain ⟨h1, h2, h3, h4, h5⟩ := ih
    have e1 : k * min (loOf zs k) (mv zs k) ≤ k * loOf zs k := Nat.mul_le_mul_left _ (Nat.min_le_left _ _)
    have e2 : k * hiOf zs k ≤ k * max (hiOf zs k) (mv zs k) := Nat.mul_le_mul_left _ (Nat.le_max_left _ _)
    simp only [loOf, hiOf, totOf, Nat.add_mul, Nat.one_mul]
    refine ⟨by omega, by omega, by omega, by omega, by omega⟩

theorem sum_whole {xs : List Nat} {f : Nat → Nat} (n : Nat) (hx : ∀ j, j ≤ n → fl xs j = ofN (f j)) (t : Nat → Nat) (h0 : t 0 = f 0) (hs : ∀ k, k < n → t (k + 1) = t k + f (k + 1)) (hb : ∀ k, k ≤ n → t k < 2 ^ 53) :
    ∀ k, k ≤ n → sumO xs k = some (ofN (t k)) := by
  intro k
  induction k with
  | zero =>
    intro _
    have e := hx 0 (by omega)
    have hf := ofN_fin (hb 0 (by omega))
    unfold sumO
    rw [e, ← h0, nan_fin hf.1]; rfl
  | succ k ih =>
    intro hk
    have i := ih (by omega)
    show (match sumO xs k with | none => none | some s => Ieee.double.add s (fl xs (k + 1))) = _
    rw [i, hx (k + 1) hk]
    show Ieee.double.add (ofN (t k)) (ofN (f (k + 1))) = _
    have hlt := hb (k + 1) hk
    rw [hs k (by omega)] at hlt ⊢
    exact add_ofN hlt

theorem mean_m (zs : List Int) (n : Nat) (hn : 0 < n) (hl : n ≤ 1000) : meanO (mXs zs n) = Ieee.double.div (ofN (totOf zs n)) (ofN n) := by
  have b : ∀ k, k ≤ n → totOf zs k < 2 ^ 53 := fun k hk => by have := (bounds zs k).2.2.1; omega
  have h := sum_whole (xs := mXs zs n) (f := mv zs) (n - 1) (fun j hj => mXs_fl zs (by omega)) (fun k => totOf zs (k + 1)) (by simp [totOf]) (fun k _ => rfl) (fun k hk => b (k + 1) (by omega)) (n - 1) (Nat.le_refl _)
  unfold meanO
  rw [mXs_length, if_neg (by omega), h, show n - 1 + 1 = n by omega]
theorem mean_y (v n : Nat) (hv : v < 1000) (hn : 0 < n) (hl : n ≤ 1000) : meanO (yXs v n) = some (ofN v) := by
  have b : ∀ k, k ≤ n → v * k < 2 ^ 53 := fun k hk => by
    have : v * k ≤ 1000 * 1000 := Nat.mul_le_mul (by omega) (by omega)
    omega
  have h := sum_whole (xs := yXs v n) (f := fun _ => v) (n - 1) (fun j hj => yXs_fl v (by omega)) (fun k => v * (k + 1)) (by simp) (fun k _ => by rw [Nat.mul_add v (k + 1), Nat.mul_one]) (fun k hk => b (k + 1) (by omega)) (n - 1) (Nat.le_refl _)
  unfold meanO
  rw [yXs_length, if_neg (by omega), h, show n - 1 + 1 = n by omega]
  exact div_whole (b n (Nat.le_refl _)) (by omega) (by omega)
theorem mean_nan (xs : List Nat) (x : Nat) (hx : nanB x = true) : meanO (xs ++ [x]) = none := by
  have hl : (xs ++ [x]).length = xs.length + 1 := by simp
  unfold meanO
  rw [hl, if_neg (by omega), show xs.length + 1 - 1 = xs.length by omega]
  have hlast : fl (xs ++ [x]) xs.length = x := by simp [fl, List.getD]
  have hs : sumO (xs ++ [x]) xs.length = none := by
    cases hn : xs.length with
    | zero => unfold sumO; rw [← hn, hlast, hx]; rfl
    | succ k =>
      show (match sumO (xs ++ [x]) k with | none => none | some s => Ieee.double.add s (fl (xs ++ [x]) (k + 1))) = none
      rw [← hn, hlast]
      cases sumO (xs ++ [x]) k with
      | none => rfl
      | some s =>
        show Ieee.double.add s x = none
        unfold Ieee.Format.add
        rw [read_nan hx]
        cases Ieee.double.read s <;> rfl
  rw [hs]

/-- the mean lies between the least and the greatest -/
theorem mean_between (zs : List Int) (n : Nat) (hn : 0 < n) (hl : n ≤ 1000) : ∃ r, meanO (mXs zs n) = some r ∧ r < I ∧ ofN (loOf zs n) ≤ r ∧ r ≤ ofN (hiOf zs n) := by
  have ⟨h1, h2, h3, h4, h5⟩ := bounds zs n
  rw [mean_m zs n hn hl]
  have fn := ofN_fin (show n < 2 ^ 53 by omega)
  have fh := ofN_fin (show hiOf zs n < 2 ^ 53 by omega)
  by_cases h0 : totOf zs n = 0
  · have hlo : loOf zs n = 0 := by
      rcases Nat.eq_zero_or_pos (loOf zs n) with h | h
      · exact h
      · have := Nat.mul_le_mul hn h; omega
    refine ⟨0, ?_, by decide, ?_, Nat.zero_le _⟩
    · rw [h0, ofN_zero]; exact zero_div fn.1 (mag_pos (ofN_pos (by omega) (by omega)))
    · rw [hlo, ofN_zero]; exact Nat.le_refl _
  · obtain ⟨X, k, hd, _, lo, hi, _, _⟩ := div_ofN (show totOf zs n < 2 ^ 53 by omega) (show n < 2 ^ 53 by omega) h0 (by omega)
    have flo := ofN_fin (show loOf zs n < 2 ^ 53 by omega)
    have u := Rnd_mono (hi _ h5)
    have l := Rnd_mono (lo _ h4)
    exact ⟨Rnd X, hd, by omega, by omega, by omega⟩

theorem apart_sym {a b : Option Nat} (h : a = none ∨ a ≠ b) : b = none ∨ b ≠ a := by
  rcases h with h | h
  · rw [h]
    cases b with
    | none => exact .inl rfl
    | some k => exact .inr (fun h => by cases h)
  · exact .inr (fun h' => h h'.symm)
/-- what holds ahead of each round -/
def MRel (zs : List Int) (v : Nat) (w : World) (lo hi xs ys i : Value) (wr : World) : Prop :=
  ∃ k : Nat, k ≤ zs.length ∧ i = .int .i64 k ∧ lo = .int .i64 (loOf zs k) ∧ hi = .int .i64 (hiOf zs k) ∧ wr.ownsRow w.heap.size 27 1 xs k (mCells zs k) ∧ wr.ownsRow w.heap.size 27 1 ys k (yCells v k) ∧
    (xs.ownBlock = none ∨ xs.ownBlock ≠ ys.ownBlock) ∧ Below w.heap.size w wr

set_option maxHeartbeats 1000000 in
theorem means_some (b off cap : Nat) (zs : List Int) (x : Int) (w : World) {B0 : Nat} (ht : Tab B0 w) (hl : zs.length ≤ 20) (h0 : 0 < zs.length) (hc : zs.length ≤ cap) (hb : b < w.heap.size)
    (hcell : ∀ j, j < zs.length → w.cell? ⟨b, off + j, none⟩ = some (.int .i64 (zi zs j))) :
    Calls Tryd.prog 8 #[.slice (some ⟨b, off, none⟩) zs.length cap, .int .i64 x] w fun e w' => e = .returned (.bool true) ∧ Below w.heap.size w w' := by
  obtain ⟨i0, hi, hz0, hz1, hz2⟩ := info_parts Tryd.infoF
  obtain ⟨v, hv⟩ := Int.eq_ofNat_of_zero_le (lowN_bd x (show (0 : Int) < 1000 by decide)).1
  have hv1 : v < 1000 := by have := (lowN_bd x (show (0 : Int) < 1000 by decide)).2; omega
  have hv' := Lib.hid hv
  have hvo := Lib.hid (floatOfInt_nat v)
  have T := Lib.hid ht
  have hcell' := Lib.hid hcell
  have e1 : decide ((20 : Int) < (zs.length : Int)) = false := by simp; omega
  have e2 : ((zs.length : Int) == 0) = false := by rw [beq_eq_false_iff_ne]; omega
  clear hcell ht hv
  go_enter Tryd.func8, Tryd.ntmps8
  go_wp2_with fail
  go_loopw [5, 6, 7, 8, 9] (fun lo hi xs ys i wr => MRel zs v w lo hi xs ys i wr) (fun _ _ _ _ i _ => zs.length - (intOf i).toNat)
  case atStart => exact ⟨0, by omega, rfl, rfl, rfl, World.ownsRow_nil _ _ _ _, World.ownsRow_nil _ _ _ _, .inl rfl, Below.refl _ _⟩
  case round =>
    obtain ⟨k, hk, rfl, rfl, rfl, hox, hoy, hap, hbel⟩ := hrel
    by_cases hlt : k < zs.length
    · have hck : wr.cell? ⟨b, off + k, none⟩ = some (.int .i64 (zi zs k)) := by rw [hbel.cell (p := ⟨b, off + k, none⟩) hb]; exact hcell'.out k hlt
      have hbel' := Lib.hid hbel
      have hsz := hbel.size
      have hox' := Lib.hid hox
      have hoy' := Lib.hid hoy
      have hap' := Lib.hid hap
      have hmv := Lib.hid (mv_eq zs k)
      have hm1 := mv_lt zs k
      have hmx := Lib.hid (show mCells zs (k + 1) = mCells zs k ++ [.float .f64 (floatOfInt .f64 (mv zs k : Int))] by rw [mCells_succ, floatOfInt_nat])
      have hyx := Lib.hid (show yCells v (k + 1) = yCells v k ++ [.float .f64 (floatOfInt .f64 (v : Int))] by rw [yCells_succ, floatOfInt_nat])
      have hlo := Lib.hid (show (min (loOf zs k : Int) (mv zs k)) = (loOf zs (k + 1) : Nat) by simp only [loOf]; omega)
      have hhi := Lib.hid (show (max (hiOf zs k : Int) (mv zs k)) = (hiOf zs (k + 1) : Nat) by simp only [hiOf]; omega)
      have bds := bounds zs k
      have bl := bds.1
      have bh := bds.2.1
      clear hbel hox hoy hap bds
      go_wp2_with (first
        | (go_at_call_of 33 (Value.int IntKind.i64 (zi zs k)); refine (low_any _ _ _ (by decide) (by decide)).mono ?_; rintro e w' ⟨rfl, rfl⟩; rw [hmv.out])
        | (at_builtin; refine wpList_append_own_at _ rfl (.tmp 38) (.tmp 41) 25 rfl w.heap.size 27 i0 (.float .f64 0) 1 8 Tryd.underlying25 hi hz0 hz1 hz2 rfl (by decide) _ _ _ rfl (hox'.out.alloc _) ⟨wr.heap.size, 0, none⟩ 1 1 [.float .f64 (floatOfInt .f64 (mv zs k : Int))] rfl rfl ?c1 ?c2 ?c3 ?c4 ?c5 ?_))
      case c1 => exact one_new _ _ _
      case c2 => intro u hu; simp at hu; subst hu; rfl
      case c3 => unfold maxLen; omega
      case c4 => omega
      case c5 => simp; omega
      intro x1 w1 ho1 hg1 _ hat1
      have hb1 := Lib.hid (app_below hbel'.out hg1 (own_ge hox'.out))
      have hs1 := hb1.out.size
      have ha1 := apart_app hoy'.out hap'.out hg1 hat1
      have ho1' := Lib.hid ho1
      have hoy1 := Lib.hid ha1.1
      have hap1 := Lib.hid ha1.2
      clear ho1 hg1 hat1 ha1
      go_wp2_with (first
        | (go_at_call_of 33 (Value.int IntKind.i64 x); refine (low_any _ _ _ (by decide) (by decide)).mono ?_; rintro e w' ⟨rfl, rfl⟩; rw [hv'.out])
        | (at_builtin; refine wpList_append_own_at _ rfl (.tmp 43) (.tmp 47) 25 rfl w.heap.size 27 i0 (.float .f64 0) 1 8 Tryd.underlying25 hi hz0 hz1 hz2 rfl (by decide) _ _ _ rfl (hoy1.out.alloc _) ⟨w1.heap.size, 0, none⟩ 1 1 [.float .f64 (floatOfInt .f64 (v : Int))] rfl rfl ?d1 ?d2 ?d3 ?d4 ?d5 ?_))
      case d1 => exact one_new _ _ _
      case d2 => intro u hu; simp at hu; subst hu; rfl
      case d3 => unfold maxLen; omega
      case d4 => omega
      case d5 => simp; omega
      intro y1 w2 ho2 hg2 _ hat2
      have hb2 := Lib.hid (app_below hb1.out hg2 (own_ge hoy1.out))
      have ha2 := apart_app ho1'.out (show _ ∨ _ from (apart_sym hap1.out)) hg2 hat2
      have ho2' := Lib.hid ho2
      have hox2 := Lib.hid ha2.1
      have hap2 := Lib.hid (apart_sym ha2.2)
      clear ho2 hg2 hat2 ha2
      go_wp2_with fail
      refine ⟨⟨k + 1, by omega, by go_num, by rw [hlo.out], by rw [hhi.out], by rw [hmx.out]; exact hox2.out, by rw [hyx.out]; exact ho2'.out, hap2.out, hb2.out⟩, by simp [intOf]; omega⟩
    · have hk' : k = zs.length := by omega
      subst hk'
      obtain ⟨r, hr, rI, rlo, rhi⟩ := mean_between zs zs.length h0 (by omega)
      have fx := own_floats hox (L := mXs zs zs.length) (fun x hx => by
        obtain ⟨j, hj, rfl⟩ := List.mem_map.1 hx
        exact ofN_fits (by have := mv_lt zs j; omega))
      have bd := bounds zs zs.length
      have g1 : (FloatKind.f64.format.order r (floatOfInt .f64 (loOf zs zs.length : Int)) == some Ordering.gt || FloatKind.f64.format.order r (floatOfInt .f64 (loOf zs zs.length : Int)) == some Ordering.eq) = true := by
        have f := (ofN_fin (show loOf zs zs.length < 2 ^ 53 by omega)).1
        rw [floatOfInt_nat, geqB, nan_fin rI, nan_fin f, ord_fin rI, ord_fin f]
        simp; omega
      have g2 : (FloatKind.f64.format.order r (floatOfInt .f64 (hiOf zs zs.length : Int)) == some Ordering.lt || FloatKind.f64.format.order r (floatOfInt .f64 (hiOf zs zs.length : Int)) == some Ordering.eq) = true := by
        have f := (ofN_fin (show hiOf zs zs.length < 2 ^ 53 by omega)).1
        rw [floatOfInt_nat, leqB, nan_fin rI, nan_fin f, ord_fin rI, ord_fin f]
        simp; omega
      have hr' := Lib.hid hr
      have fx' := Lib.hid fx
      have hbel' := Lib.hid hbel
      have hox' := Lib.hid hox
      have hoy' := Lib.hid hoy
      have hsz := hbel.size
      clear hr fx hbel hox hoy rI rlo rhi bd
      go_wp2_with fail
      refine (mean_any _ _ _ fx'.out (by rw [mXs_length]; omega)).mono ?_
      rintro e w1 ⟨q, rfl, hq, c1⟩
      obtain rfl : q = r := by rw [hr'.out] at hq; exact hq.2
      clear hq
      have hoy1 := own_below hoy'.out c1
      have fy := own_floats hoy1 (L := yXs v zs.length) (fun x hx => by rw [(List.mem_replicate.1 hx).2]; exact ofN_fits (by omega))
      have fy' := Lib.hid fy
      have hmy := Lib.hid (mean_y v zs.length hv1 h0 (by omega))
      have g3 : (FloatKind.f64.format.order (ofN v) (floatOfInt .f64 (v : Int)) == some Ordering.eq) = true := by
        have f := (ofN_fin (show v < 2 ^ 53 by omega)).1
        rw [floatOfInt_nat, eqB, nan_fin f]; simp
      clear hoy1 fy
      go_wp2_with fail
      refine (mean_any _ _ _ fy'.out (by rw [yXs_length]; omega)).mono ?_
      rintro e w2 ⟨q2, rfl, hq, c2⟩
      have eq2 : q2 = ofN v := by rw [hmy.out] at hq; exact hq.2
      rw [eq2]
      clear hq eq2
      have hox2 := Lib.hid (own_below (own_below hox'.out c1) c2)
      have c12 := Lib.hid (stp c1 c2)
      have cs := c12.out.size
      go_wp2_with (first
        | (go_at_call_of 33 (Value.int IntKind.i64 x); refine (low_any _ _ _ (by decide) (by decide)).mono ?_; rintro e w' ⟨rfl, rfl⟩; rw [hv'.out])
        | (go_at_call 35; refine (nan_any _).mono ?_; rintro e w' ⟨rfl, rfl⟩)
        | (at_builtin; refine wpList_append_want rfl (.tmp 70) (.tmp 72) 25 rfl w.heap.size 27 i0 (.float .f64 0) 1 8 Tryd.underlying25 hi hz0 hz1 hz2 rfl (by decide) _ _ _ rfl (hox2.out.alloc _) ⟨w2.heap.size, 0, none⟩ 1 1 [.float .f64 9221120237041090561] rfl rfl ?e1 ?e2 ?e3 ?e4 ?e5 ?_))
      case e1 => exact one_new _ _ _
      case e2 => intro u hu; simp at hu; subst hu; rfl
      case e3 => unfold maxLen; omega
      case e4 => omega
      case e5 => simp; omega
      intro z1 w3 ho3 hg3
      have c3 := Lib.hid (app_below (stp hbel'.out c12.out) hg3 (own_ge hox2.out))
      have fz := own_floats (L := mXs zs zs.length ++ [NaN]) (by rw [List.map_append]; exact ho3) (fun x hx => by
        rcases List.mem_append.1 hx with h | h
        · obtain ⟨j, _, rfl⟩ := List.mem_map.1 h
          exact ofN_fits (by have := mv_lt zs j; omega)
        · rw [List.mem_singleton.1 h]; exact fits_NaN)
      have fz' := Lib.hid fz
      have hmz := Lib.hid (mean_nan (mXs zs zs.length) NaN (by decide))
      have lz : (mXs zs zs.length ++ [NaN]).length ≤ 1000 := by rw [List.length_append, mXs_length, List.length_singleton]; omega
      have lz' := Lib.hid lz
      clear fz ho3 hg3 lz
      go_wp2_with fail
      refine (mean_any _ _ _ fz'.out lz'.out).mono ?_
      rintro e w4 ⟨q4, rfl, hq, c4⟩
      have hn4 := Lib.hid (show nanB q4 = true by rw [hmz.out] at hq; exact hq.2)
      clear hq
      go_wp2_with (go_at_call 32; refine (isNaN_any _ _).mono ?_; rintro e w' ⟨rfl, rfl⟩; rw [hn4.out])
      refine (mean_none _ _ _).mono ?_
      rintro e w' ⟨rfl, rfl⟩
      have hn5 := Lib.hid (show nanB NaN = true by decide)
      go_wp2_with (go_at_call 32; refine (isNaN_any _ _).mono ?_; rintro e w' ⟨rfl, rfl⟩; rw [hn5.out])
      have cc := stp c3.out c4
      refine (awake_any _ (T.out.on cc)).mono ?_
      rintro e w5 ⟨rfl, c5⟩
      go_wp2_with fail
      go_ret
      exact ⟨rfl, stp cc c5⟩

/-- none, or more than are gone through -/
theorem means_few (a : Option Addr) (n cap : Nat) (x : Int) (w : World) {B0 : Nat} (ht : Tab B0 w) (h : n = 0 ∨ 20 < n) :
    Calls Tryd.prog 8 #[.slice a n cap, .int .i64 x] w fun e w' => e = .returned (.bool true) ∧ Below w.heap.size w w' := by
  have T := Lib.hid ht
  clear ht
  by_cases h20 : 20 < n
  · have e1 : decide ((20 : Int) < (n : Int)) = true := by simp; omega
    clear h h20
    go_enter Tryd.func8, Tryd.ntmps8
    go_wp2_with (go_at_call 11; refine (awake_any _ T.out).mono ?_; rintro e w' ⟨rfl, hb1⟩)
    go_ret
    exact ⟨rfl, hb1⟩
  · obtain rfl : n = 0 := by omega
    clear h h20
    go_enter Tryd.func8, Tryd.ntmps8
    go_wp2_with (go_at_call 11; refine (awake_any _ T.out).mono ?_; rintro e w' ⟨rfl, hb1⟩)
    go_ret
    exact ⟨rfl, hb1⟩

theorem means_any (v : Value) (zs : List Int) (x : Int) (w : World) {B0 : Nat} (ht : Tab B0 w) (hv : ISlice .i64 w v zs) :
    Calls Tryd.prog 8 #[v, .int .i64 x] w fun e w' => e = .returned (.bool true) ∧ Below w.heap.size w w' := by
  rcases hv with ⟨a, cap, rfl, rfl⟩ | ⟨h0, b, off, cap, rfl, hc, _, hb, hcell, _⟩
  · exact means_few a 0 cap x w ht (.inl rfl)
  · by_cases hl : zs.length ≤ 20
    · exact means_some b off cap zs x w ht hl h0 hc hb hcell
    · exact means_few _ _ cap x w ht (.inr (by omega))
end Go.Proofs.YtokpdcelfanbpaaDoor
