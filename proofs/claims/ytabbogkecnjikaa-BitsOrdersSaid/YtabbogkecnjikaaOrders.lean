/-
  The law on the order in which numbers are put in and taken away.
-/
import Derived.Test.YtabbogkecnjikaaAwake
import Derived.Test.YtabbogkecnjikaaAll
import Derived.Test.YtabbogkecnjikaaWith
import Derived.Test.YtabbogkecnjikaaLo
import Derived.Deep.DeepCutAuto
import Derived.RegionTactic
namespace Go.Proofs.Ytabbogkecnjikaa
open Go.RowKit BigFrame

/-- bit i of x -/
def bitP (x : Int) (i : Nat) : Bool := bits BinOp.and IntKind.i64 (x / 2 ^ i) 1 == 1
theorem i64_and1 (n : Int) : bits .and .i64 n 1 = n % 2 := by
  have h1 : (BitVec.ofInt 64 1).toNat = 2 ^ 1 - 1 := by decide
  have key : (BitVec.ofInt 64 n &&& BitVec.ofInt 64 1).toNat = (n % ((2 ^ 64 : Nat) : Int)).toNat % 2 ^ 1 := by
    rw [BitVec.toNat_and, BitVec.toNat_ofInt, h1, Nat.and_two_pow_sub_one_eq_mod]
  show IntKind.i64.wrap ((BitVec.ofInt 64 n &&& BitVec.ofInt 64 1).toNat : Nat) = n % 2
  rw [key, IntKind.wrap_i64]
  omega
theorem bit_none (x : Int) (i : Nat) : (bits BinOp.and IntKind.i64 (x / 2 ^ i) 1 == 0) = !(bitP x i) := by
  unfold bitP
  rw [i64_and1]
  have := Int.emod_nonneg (x / 2 ^ i) (show (2 : Int) ≠ 0 by omega)
  have := Int.emod_lt_of_pos (x / 2 ^ i) (show (0 : Int) < 2 by omega)
  generalize x / 2 ^ i % 2 = r at *
  have : r = 0 ∨ r = 1 := by omega
  rcases this with rfl | rfl <;> rfl

/-- those below 60 of which P tells, if their turn has come -/
def Part (P : Nat → Bool) (turn i : Nat) (L : List Nat) : Prop :=
  L.length = 8 ∧ Octs L ∧ ∀ j, hasN L j = (decide (j < 60 ∧ (j + 60 - turn) % 60 < i) && P j)
theorem Part.start (P : Nat → Bool) (turn : Nat) : Part P turn 0 (zs 8) := ⟨zs_length 8, Octs.rep _ 0 (by decide), fun j => by rw [hasN_zs]; simp⟩
theorem Part.step {P : Nat → Bool} {turn i k : Nat} {L : List Nat} (h : Part P turn i L) (hi : i < 60) (ht : turn < 60) (hk : k = (i + turn) % 60) : Part P turn (i + 1) (putN L k (P k)) := by
  obtain ⟨h1, h2, h3⟩ := h
  refine ⟨by rw [putN_length, h1], putN_octs h2 _ _, fun j => ?_⟩
  rw [hasN_put (by omega)]
  by_cases e : j = k
  · rw [if_pos e]
    have e2 : decide (j < 60 ∧ (j + 60 - turn) % 60 < i + 1) = true := by rw [decide_eq_true_eq]; omega
    rw [e2, e]; simp
  · rw [if_neg e, h3]
    have e2 : decide (j < 60 ∧ (j + 60 - turn) % 60 < i + 1) = decide (j < 60 ∧ (j + 60 - turn) % 60 < i) := by rw [decide_eq_decide]; omega
    rw [e2]
/-- those below 60 of which P tells, but those of T, if their turn has come -/
def Gone (P T : Nat → Bool) (turn i : Nat) (L : List Nat) : Prop :=
  L.length = 8 ∧ Octs L ∧ ∀ j, hasN L j = (decide (j < 60) && P j && !(decide ((j + 60 - turn) % 60 < i) && T j))
theorem Part.gone {P : Nat → Bool} {turn : Nat} {L : List Nat} (h : Part P turn 60 L) (T : Nat → Bool) : Gone P T turn 0 L := by
  obtain ⟨h1, h2, h3⟩ := h
  refine ⟨h1, h2, fun j => ?_⟩
  have e2 : decide (j < 60 ∧ (j + 60 - turn) % 60 < 60) = decide (j < 60) := by rw [decide_eq_decide]; omega
  rw [h3, e2]; simp
theorem Gone.keep {P T : Nat → Bool} {turn i k : Nat} {L : List Nat} (h : Gone P T turn i L) (hi : i < 60) (ht : turn < 60) (hk : k = (i + turn) % 60) (hT : T k = false) : Gone P T turn (i + 1) L := by
  obtain ⟨h1, h2, h3⟩ := h
  refine ⟨h1, h2, fun j => ?_⟩
  rw [h3]
  by_cases e : j = k
  · rw [e, hT]; simp
  · by_cases e3 : j < 60
    · have e2 : decide ((j + 60 - turn) % 60 < i + 1) = decide ((j + 60 - turn) % 60 < i) := by rw [decide_eq_decide]; omega
      rw [e2]
    · have e2 : decide (j < 60) = false := by rw [decide_eq_false_iff_not]; exact e3
      rw [e2]; simp
theorem Gone.take {P T : Nat → Bool} {turn i k : Nat} {L : List Nat} (h : Gone P T turn i L) (hi : i < 60) (ht : turn < 60) (hk : k = (i + turn) % 60) (hT : T k = true) : Gone P T turn (i + 1) (putN L k false) := by
  obtain ⟨h1, h2, h3⟩ := h
  refine ⟨by rw [putN_length, h1], putN_octs h2 _ _, fun j => ?_⟩
  rw [hasN_put (by omega)]
  by_cases e : j = k
  · rw [if_pos e]
    have e2 : decide ((j + 60 - turn) % 60 < i + 1) = true := by rw [decide_eq_true_eq]; omega
    rw [e2, e, hT]; simp
  · rw [if_neg e, h3]
    by_cases e3 : j < 60
    · have e2 : decide ((j + 60 - turn) % 60 < i + 1) = decide ((j + 60 - turn) % 60 < i) := by rw [decide_eq_decide]; omega
      rw [e2]
    · have e2 : decide (j < 60) = false := by rw [decide_eq_false_iff_not]; exact e3
      rw [e2]; simp
theorem Gone.all {P T : Nat → Bool} {turn : Nat} {L : List Nat} (h : Gone P T turn 60 L) : L.length = 8 ∧ Octs L ∧ ∀ j, hasN L j = (decide (j < 60) && P j && !(T j)) := by
  obtain ⟨h1, h2, h3⟩ := h
  refine ⟨h1, h2, fun j => ?_⟩
  have e2 : decide ((j + 60 - turn) % 60 < 60) = true := by rw [decide_eq_true_eq]; omega
  rw [h3, e2]; simp
theorem Gone.same {P T : Nat → Bool} {t1 t2 : Nat} {L M : List Nat} (h : Gone P T t1 60 L) (g : Gone P T t2 60 M) : L = M := by
  obtain ⟨h1, h2, h3⟩ := h.all
  obtain ⟨g1, g2, g3⟩ := g.all
  exact bits_ext h2 g2 (by omega) fun i _ => by rw [h3, g3]
theorem Gone.first {P T : Nat → Bool} {t f : Nat} {L : List Nat} (h : Gone P T t 60 L) (hf : f ≤ 60) (hb : ∀ j, j < f → P j = true ∧ T j = false) (he : f = 60 ∨ P f = false ∨ T f = true) : IsFirst L 0 61 (f : Int) := by
  obtain ⟨h1, h2, h3⟩ := h.all
  refine .inl ⟨f, rfl, by omega, by omega, ?_, fun i _ hi => ?_⟩
  · rw [h3]
    rcases he with rfl | e | e
    · simp
    · rw [e]; simp
    · rw [e]; simp
  · rw [h3, (hb i hi).1, (hb i hi).2]
    have : decide (i < 60) = true := by rw [decide_eq_true_eq]; omega
    rw [this]; rfl
theorem Gone.count {P T : Nat → Bool} {t : Nat} {L : List Nat} (h : Gone P T t 60 L) : countN L 64 = countN L 60 := by
  obtain ⟨h1, h2, h3⟩ := h.all
  have e : ∀ j, 60 ≤ j → hasN L j = false := fun j hj => by
    rw [h3]
    have : decide (j < 60) = false := by rw [decide_eq_false_iff_not]; omega
    rw [this]; rfl
  rw [countN_succ L 63 _ (e 63 (by omega)), countN_succ L 62 _ (e 62 (by omega)), countN_succ L 61 _ (e 61 (by omega)), countN_succ L 60 _ (e 60 (by omega))]
  simp

def Ord1 (P : Nat → Bool) (turn : Nat) (w : World) (g : Nat) (u v i : Value) (wr : World) : Prop :=
  ∃ (j : Nat) (La Lb : List Nat), j + g = 60 ∧ OwnB wr w.heap.size u La ∧ Part P 0 j La ∧ OwnB wr w.heap.size v Lb ∧ Part P turn j Lb ∧ i = .int .i64 j ∧ Below w.heap.size w wr
def Ord2 (P T : Nat → Bool) (turn : Nat) (w : World) (g : Nat) (u v i : Value) (wr : World) : Prop :=
  ∃ (j : Nat) (La Lb : List Nat), j + g = 60 ∧ OwnB wr w.heap.size u La ∧ Gone P T 0 j La ∧ OwnB wr w.heap.size v Lb ∧ Gone P T turn j Lb ∧ i = .int .i64 j ∧ Below w.heap.size w wr
def Ord3 (P T : Nat → Bool) (w : World) (g : Nat) (i : Value) (wr : World) : Prop :=
  ∃ f : Nat, f + g = 60 ∧ i = .int .i64 f ∧ wr = w ∧ ∀ j, j < f → P j = true ∧ T j = false

def zero8 : Array Value := (bv (zs 8)).toArray
theorem run_make8 (w : World) : (Instr.makeSlice 22 (Value.int IntKind.i64 8) (Value.int IntKind.i64 8)).run Try.prog w = .ok (.slice (some ⟨w.heap.size, 0, none⟩) 8 8) (w.alloc (.cells zero8 5)) := by kernel_rfl
theorem own8 (w : World) (base : Nat) (hb : base ≤ w.heap.size) : OwnB (w.alloc (.cells zero8 5)) base (.slice (some ⟨w.heap.size, 0, none⟩) 8 8) (zs 8) := OwnB.made w (zs 8) base hb (by rw [zs_length]; omega)
theorem two8 (w : World) : OwnB (((w.alloc (.cells zero8 5)).alloc (.cells zero8 5)).drew) w.heap.size (.slice (some ⟨w.heap.size, 0, none⟩) 8 8) (zs 8) ∧
    OwnB (((w.alloc (.cells zero8 5)).alloc (.cells zero8 5)).drew) w.heap.size (.slice (some ⟨w.heap.size + 1, 0, none⟩) 8 8) (zs 8) ∧ Below w.heap.size w (((w.alloc (.cells zero8 5)).alloc (.cells zero8 5)).drew) := by
  have b1 := (Below.refl w.heap.size w).alloc (Nat.le_refl _) (.cells zero8 5)
  have b2 := b1.alloc b1.size (.cells zero8 5)
  have e : (w.alloc (.cells zero8 5)).heap.size = w.heap.size + 1 := by simp
  have h2 := own8 (w.alloc (.cells zero8 5)) w.heap.size (by omega)
  rw [e] at h2
  exact ⟨(own8 w w.heap.size (Nat.le_refl _)).on ((Below.refl _ _).alloc (Nat.le_refl _) _).drew (Nat.le_refl _), h2, b2.drew⟩

set_option maxRecDepth 100000 in
set_option maxHeartbeats 2000000 in
theorem orders_law (x y z : Int) (w : World) :
    Calls Try.prog 5 #[.int .i64 x, .int .i64 y, .int .i64 z] w (Woke w) := by
  go_enter Try.func5, Try.ntmps5
  go_wp2_with (go_at_call 7; refine (low_c z _ 60 _ rfl (by omega) (by omega)).mono ?_; rintro e w3 ⟨turn, hturn, rfl, rfl⟩)
  go_cut [7, 8] (fun u v wx => OwnB wx w.heap.size u (zs 8) ∧ OwnB wx w.heap.size v (zs 8) ∧ Below w.heap.size w wx)
  case first =>
    have hmk := run_make8
    go_region
    all_goals go_wp2_with fail
    · go_meet
      exact two8 w
    · go_meet
      exact ⟨(two8 w).2.1, (two8 w).1, (two8 w).2.2⟩
  case rest =>
    obtain ⟨ha, hb, hB⟩ := hcut
    have hA := Lib.hid ha
    have hBb := Lib.hid hb
    have hBl := Lib.hid hB
    clear ha hb hB
    go_wp2_with fail
    go_loopg [7, 8, 9] 60 (fun g u v i wr => Ord1 (bitP x) turn w g u v i wr)
    case atStart => exact ⟨0, zs 8, zs 8, by omega, hA.out, Part.start _ _, hBb.out, Part.start _ _, rfl, hBl.out⟩
    case round =>
      obtain ⟨j, La, Lb, hg, hoa, hpa, hob, hpb, rfl, hbr⟩ := hrel
      obtain ⟨ga, ca, rfl, _, _, _⟩ := hoa.at hpa.1 (by omega)
      obtain ⟨gb, cb, rfl, _, _, _⟩ := hob.at hpb.1 (by omega)
      have hOa := Lib.hid hoa
      have hOb := Lib.hid hob
      have hPa := Lib.hid hpa
      have hPb := Lib.hid hpb
      have hBr := Lib.hid hbr
      clear hoa hob hpa hpb hbr
      by_cases hlt : j < 60
      · obtain ⟨g, rfl⟩ : ∃ g, gk = g + 1 := ⟨gk - 1, by omega⟩
        obtain ⟨k, hk0⟩ : ∃ k, k = (j + turn) % 60 := ⟨_, rfl⟩
        have hk1 : ((j : Int) + (turn : Int)) % 60 = (k : Int) := by omega
        have hk := Lib.hid hk0
        have tj : (bits BinOp.and IntKind.i64 (x / 2 ^ j) 1 == 1) = bitP x j := rfl
        have tk : (bits BinOp.and IntKind.i64 (x / 2 ^ k) 1 == 1) = bitP x k := rfl
        clear hk0
        go_wp2_with (first
          | (go_at_call_of 12 ga; refine (with_c _ _ 8 j _ (bitP x j) La _ _ rfl rfl hPa.out.2.1 hPa.out.1 (by omega) hOa.out.bat (fun h => by cases h)).mono ?_; rintro e w1 ⟨v1, rfl, ho1, hb1⟩; have O1 := Lib.hid (ho1.lower hBr.out.size); have Ob1 := Lib.hid (hOb.out.on hb1 (Nat.le_refl _)); have B1 := Lib.hid (hBr.out.trans (hb1.mono hBr.out.size)); clear ho1 hb1)
          | (go_at_call_of 12 gb; refine (with_c _ _ 8 k _ (bitP x k) Lb _ _ rfl rfl hPb.out.2.1 hPb.out.1 (by omega) Ob1.out.bat (fun h => by cases h)).mono ?_; rintro e w2 ⟨v2, rfl, ho2, hb2⟩; have O2 := Lib.hid (ho2.lower B1.out.size); have Oa2 := Lib.hid (O1.out.on hb2 (Nat.le_refl _)); have B2 := Lib.hid (B1.out.trans (hb2.mono B1.out.size)); clear ho2 hb2))
        go_roundg g
        case measure => omega
        case rel => exact ⟨j + 1, putN La j (bitP x j), putN Lb k (bitP x k), by omega, Oa2.out, hPa.out.step hlt (by omega) (by omega), O2.out, hPb.out.step hlt hturn hk.out, by go_num, B2.out⟩
      · obtain rfl : j = 60 := by omega
        have gA := Lib.hid (hPa.out.gone (bitP y))
        have gB := Lib.hid (hPb.out.gone (bitP y))
        clear hPa hPb
        go_wp2_with fail
        go_loopg [7, 8, 11] 60 (fun g u v i wr => Ord2 (bitP x) (bitP y) turn w g u v i wr)
        case atStart => exact ⟨0, La, Lb, by omega, hOa.out, gA.out, hOb.out, gB.out, rfl, hBr.out⟩
        case round =>
          clear gA gB hOa hOb hBr
          obtain ⟨j, La, Lb, hg, hoa, hpa, hob, hpb, rfl, hbr⟩ := hrel
          obtain ⟨ga, ca, rfl, _, _, _⟩ := hoa.at hpa.1 (by omega)
          obtain ⟨gb, cb, rfl, _, _, _⟩ := hob.at hpb.1 (by omega)
          have hOa := Lib.hid hoa
          have hOb := Lib.hid hob
          have hPa := Lib.hid hpa
          have hPb := Lib.hid hpb
          have hBr := Lib.hid hbr
          clear hoa hob hpa hpb hbr
          by_cases hlt : j < 60
          · obtain ⟨g, rfl⟩ : ∃ g, gk = g + 1 := ⟨gk - 1, by omega⟩
            obtain ⟨k, hk0⟩ : ∃ k, k = (j + turn) % 60 := ⟨_, rfl⟩
            have hk1 : ((j : Int) + (turn : Int)) % 60 = (k : Int) := by omega
            have hk := Lib.hid hk0
            obtain ⟨t1, ht1⟩ : ∃ t, bitP y j = t := ⟨_, rfl⟩
            obtain ⟨t2, ht2⟩ : ∃ t, bitP y k = t := ⟨_, rfl⟩
            have tj : (bits BinOp.and IntKind.i64 (y / 2 ^ j) 1 == 1) = t1 := ht1
            have tk : (bits BinOp.and IntKind.i64 (y / 2 ^ k) 1 == 1) = t2 := ht2
            have hT1 := Lib.hid ht1
            have hT2 := Lib.hid ht2
            clear hk0 ht1 ht2
            cases t1
            · cases t2
              · go_wp2_with fail
                go_roundg g
                case measure => omega
                case rel => exact ⟨j + 1, La, Lb, by omega, hOa.out, hPa.out.keep (k := j) hlt (by omega) (by omega) hT1.out, hOb.out, hPb.out.keep (k := k) hlt hturn hk.out hT2.out, by go_num, hBr.out⟩
              · go_wp2_with (go_at_call_of 12 gb; refine (with_c _ _ 8 k _ false Lb _ _ rfl rfl hPb.out.2.1 hPb.out.1 (by omega) hOb.out.bat (fun h => by cases h)).mono ?_; rintro e w2 ⟨v2, rfl, ho2, hb2⟩; have O2 := Lib.hid (ho2.lower hBr.out.size); have Oa2 := Lib.hid (hOa.out.on hb2 (Nat.le_refl _)); have B2 := Lib.hid (hBr.out.trans (hb2.mono hBr.out.size)); clear ho2 hb2)
                go_roundg g
                case measure => omega
                case rel => exact ⟨j + 1, La, putN Lb k false, by omega, Oa2.out, hPa.out.keep (k := j) hlt (by omega) (by omega) hT1.out, O2.out, hPb.out.take hlt hturn hk.out hT2.out, by go_num, B2.out⟩
            · cases t2
              · go_wp2_with (go_at_call_of 12 ga; refine (with_c _ _ 8 j _ false La _ _ rfl rfl hPa.out.2.1 hPa.out.1 (by omega) hOa.out.bat (fun h => by cases h)).mono ?_; rintro e w1 ⟨v1, rfl, ho1, hb1⟩; have O1 := Lib.hid (ho1.lower hBr.out.size); have Ob1 := Lib.hid (hOb.out.on hb1 (Nat.le_refl _)); have B1 := Lib.hid (hBr.out.trans (hb1.mono hBr.out.size)); clear ho1 hb1)
                go_roundg g
                case measure => omega
                case rel => exact ⟨j + 1, putN La j false, Lb, by omega, O1.out, hPa.out.take hlt (by omega) (by omega) hT1.out, Ob1.out, hPb.out.keep (k := k) hlt hturn hk.out hT2.out, by go_num, B1.out⟩
              · go_wp2_with (first
                | (go_at_call_of 12 ga; refine (with_c _ _ 8 j _ false La _ _ rfl rfl hPa.out.2.1 hPa.out.1 (by omega) hOa.out.bat (fun h => by cases h)).mono ?_; rintro e w1 ⟨v1, rfl, ho1, hb1⟩; have O1 := Lib.hid (ho1.lower hBr.out.size); have Ob1 := Lib.hid (hOb.out.on hb1 (Nat.le_refl _)); have B1 := Lib.hid (hBr.out.trans (hb1.mono hBr.out.size)); clear ho1 hb1)
                | (go_at_call_of 12 gb; refine (with_c _ _ 8 k _ false Lb _ _ rfl rfl hPb.out.2.1 hPb.out.1 (by omega) Ob1.out.bat (fun h => by cases h)).mono ?_; rintro e w2 ⟨v2, rfl, ho2, hb2⟩; have O2 := Lib.hid (ho2.lower B1.out.size); have Oa2 := Lib.hid (O1.out.on hb2 (Nat.le_refl _)); have B2 := Lib.hid (B1.out.trans (hb2.mono B1.out.size)); clear ho2 hb2))
                go_roundg g
                case measure => omega
                case rel => exact ⟨j + 1, putN La j false, putN Lb k false, by omega, Oa2.out, hPa.out.take hlt (by omega) (by omega) hT1.out, O2.out, hPb.out.take hlt hturn hk.out hT2.out, by go_num, B2.out⟩
          · obtain rfl : j = 60 := by omega
            obtain rfl : Lb = La := hPb.out.same hPa.out
            have hn := Lib.hid hPa.out.all.1
            have ho := Lib.hid hPa.out.all.2.1
            obtain ⟨cc, hcc0⟩ : ∃ cc, countN Lb 60 = cc := ⟨_, rfl⟩
            have hccl : cc ≤ 60 := by rw [← hcc0]; exact countN_le _ _
            have hcc := Lib.hid hcc0
            have hca := Lib.hid (show countN Lb 64 = cc by rw [hPa.out.count]; exact hcc0)
            clear hcc0
            go_wp2_with fail
            go_loopg [13] 60 (fun g i wx => Ord3 (bitP x) (bitP y) wr g i wx)
            case atStart => exact ⟨0, by omega, rfl, rfl, fun j h => by omega⟩
            case round =>
              obtain ⟨f, hg3, rfl, rfl, hbits⟩ := hrel
              have hBits := Lib.hid hbits
              clear hbits
              by_cases hf : f < 60
              · obtain ⟨g3, rfl⟩ : ∃ g, gk = g + 1 := ⟨gk - 1, by omega⟩
                have tl : decide ((f : Int) < 60) = true := by rw [decide_eq_true_eq]; omega
                obtain ⟨p1, hp1⟩ : ∃ t, bitP x f = t := ⟨_, rfl⟩
                obtain ⟨p2, hp2⟩ : ∃ t, bitP y f = t := ⟨_, rfl⟩
                have tx : (bits BinOp.and IntKind.i64 (x / 2 ^ f) 1 == 1) = p1 := hp1
                have ty : (bits BinOp.and IntKind.i64 (y / 2 ^ f) 1 == 0) = !p2 := by rw [bit_none, hp2]
                have hP1 := Lib.hid hp1
                have hP2 := Lib.hid hp2
                clear hp1 hp2
                cases p1
                · have hfirst := Lib.hid (hPa.out.first (f := f) (by omega) hBits.out (.inr (.inl hP1.out)))
                  clear ty
                  go_wp2_with (first
                  | (go_at_call 15; refine (same_same _ _ _ _ 8 Lb Lb _ hn.out rfl (by omega) hOa.out.bat hOb.out.bat).mono ?_; rintro e w3 ⟨rfl, hb3⟩; have O3 := Lib.hid (hOa.out.on hb3 (Nat.le_refl _)); have B3 := Lib.hid (hBr.out.trans (hb3.mono hBr.out.size)); clear hb3)
                  | (go_at_call 10; refine (first_is _ _ 8 0 61 _ _ _ Lb _ hfirst.out rfl rfl ho.out hn.out (by omega) O3.out.bat (by omega) (by omega)).mono ?_; rintro e w4 ⟨rfl, q4, rfl⟩)
                  | (go_at_call 13; refine (count_is _ _ 8 60 cc _ Lb _ hcc.out rfl ho.out hn.out (by omega) O3.out.bat.drew (by omega)).mono ?_; rintro e w4 ⟨rfl, q5, rfl⟩)
                  | (go_at_call 14; refine (all_c _ _ 8 64 _ Lb _ rfl ho.out hn.out (by omega) O3.out.bat.drew (by omega)).mono ?_; rintro e w4 ⟨v4, rfl, ho4, hb4⟩; obtain ⟨a4, c4, rfl, _, _, _, _, _⟩ := ho4.slice; rw [hca.out]; have B4 := Lib.hid (B3.out.trans (((below_drewN w3 _).trans hb4).mono B3.out.size)); clear ho4 hb4)
                  | (go_at_call 6; refine (awake_any _).mono ?_; rintro e w7 ⟨rfl, hb7⟩; have B7 := Lib.hid (B4.out.trans (hb7.mono B4.out.size)); clear hb7))
                  go_ret
                  exact ⟨rfl, B7.out⟩
                · cases p2
                  · have ty2 : (bits BinOp.and IntKind.i64 (y / 2 ^ f) 1 == 0) = true := ty
                    clear ty
                    go_wp2_with fail
                    go_roundg g3
                    case measure => omega
                    case rel => exact ⟨f + 1, by omega, by go_num, rfl, fun j h => by
                      by_cases e : j = f
                      · rw [e]; exact ⟨hP1.out, hP2.out⟩
                      · exact hBits.out j (by omega)⟩
                  · have ty2 : (bits BinOp.and IntKind.i64 (y / 2 ^ f) 1 == 0) = false := ty
                    clear ty
                    have hfirst := Lib.hid (hPa.out.first (f := f) (by omega) hBits.out (.inr (.inr hP2.out)))
                    go_wp2_with (first
                  | (go_at_call 15; refine (same_same _ _ _ _ 8 Lb Lb _ hn.out rfl (by omega) hOa.out.bat hOb.out.bat).mono ?_; rintro e w3 ⟨rfl, hb3⟩; have O3 := Lib.hid (hOa.out.on hb3 (Nat.le_refl _)); have B3 := Lib.hid (hBr.out.trans (hb3.mono hBr.out.size)); clear hb3)
                  | (go_at_call 10; refine (first_is _ _ 8 0 61 _ _ _ Lb _ hfirst.out rfl rfl ho.out hn.out (by omega) O3.out.bat (by omega) (by omega)).mono ?_; rintro e w4 ⟨rfl, q4, rfl⟩)
                  | (go_at_call 13; refine (count_is _ _ 8 60 cc _ Lb _ hcc.out rfl ho.out hn.out (by omega) O3.out.bat.drew (by omega)).mono ?_; rintro e w4 ⟨rfl, q5, rfl⟩)
                  | (go_at_call 14; refine (all_c _ _ 8 64 _ Lb _ rfl ho.out hn.out (by omega) O3.out.bat.drew (by omega)).mono ?_; rintro e w4 ⟨v4, rfl, ho4, hb4⟩; obtain ⟨a4, c4, rfl, _, _, _, _, _⟩ := ho4.slice; rw [hca.out]; have B4 := Lib.hid (B3.out.trans (((below_drewN w3 _).trans hb4).mono B3.out.size)); clear ho4 hb4)
                  | (go_at_call 6; refine (awake_any _).mono ?_; rintro e w7 ⟨rfl, hb7⟩; have B7 := Lib.hid (B4.out.trans (hb7.mono B4.out.size)); clear hb7))
                    go_ret
                    exact ⟨rfl, B7.out⟩
              · obtain rfl : f = 60 := by omega
                have tl : decide (((60 : Nat) : Int) < 60) = false := by decide
                have hfirst := Lib.hid (hPa.out.first (f := 60) (by omega) hBits.out (.inl rfl))
                go_wp2_with (first
                  | (go_at_call 15; refine (same_same _ _ _ _ 8 Lb Lb _ hn.out rfl (by omega) hOa.out.bat hOb.out.bat).mono ?_; rintro e w3 ⟨rfl, hb3⟩; have O3 := Lib.hid (hOa.out.on hb3 (Nat.le_refl _)); have B3 := Lib.hid (hBr.out.trans (hb3.mono hBr.out.size)); clear hb3)
                  | (go_at_call 10; refine (first_is _ _ 8 0 61 _ _ _ Lb _ hfirst.out rfl rfl ho.out hn.out (by omega) O3.out.bat (by omega) (by omega)).mono ?_; rintro e w4 ⟨rfl, q4, rfl⟩)
                  | (go_at_call 13; refine (count_is _ _ 8 60 cc _ Lb _ hcc.out rfl ho.out hn.out (by omega) O3.out.bat.drew (by omega)).mono ?_; rintro e w4 ⟨rfl, q5, rfl⟩)
                  | (go_at_call 14; refine (all_c _ _ 8 64 _ Lb _ rfl ho.out hn.out (by omega) O3.out.bat.drew (by omega)).mono ?_; rintro e w4 ⟨v4, rfl, ho4, hb4⟩; obtain ⟨a4, c4, rfl, _, _, _, _, _⟩ := ho4.slice; rw [hca.out]; have B4 := Lib.hid (B3.out.trans (((below_drewN w3 _).trans hb4).mono B3.out.size)); clear ho4 hb4)
                  | (go_at_call 6; refine (awake_any _).mono ?_; rintro e w7 ⟨rfl, hb7⟩; have B7 := Lib.hid (B4.out.trans (hb7.mono B4.out.size)); clear hb7))
                go_ret
                exact ⟨rfl, B7.out⟩
end Go.Proofs.Ytabbogkecnjikaa
