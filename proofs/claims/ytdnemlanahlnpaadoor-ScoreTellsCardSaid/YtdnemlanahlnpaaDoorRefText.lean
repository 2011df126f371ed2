/-
  The document's own text of a float.
-/
import Derived.Test.YtdnemlanahlnpaaDoorText
namespace Go.Proofs.YtdnemlanahlnpaaDoor
open Go.RowKit Fl

theorem conv_u64 (r : Nat) (h : r < R53) (w : World) : (convert 27 23 (.float .f64 r)).run Tryd.prog w = .ok (.int .u64 ((trunc r : Nat) : Int)) w := by
  have ht := trunc_lt r
  refine run_convert_float_int w _ _ _ _ _ _ (by kernel_rfl) Tryd.underlying23 ?_
  unfold floatToIntVal
  rw [toInt_rung h]
  simp only
  rw [if_pos]
  constructor
  · show (0 : Int) ≤ _; omega
  · show _ ≤ (18446744073709551615 : Int); omega

set_option maxHeartbeats 400000 in
theorem isInf_zero (b : Nat) (w : World) (hb : Fits b) (h : nanB b = false) :
    Calls Tryd.prog 34 #[.float .f64 b, .int .i64 0] w fun e w' => e = .returned (.bool (decide (I ≤ rung b))) ∧ w = w' := by
  have n1 : nanB (rung b) = false := by unfold nanB; rw [rung_rung]; exact h
  have g1 : (FloatKind.f64.format.order (rung b) 9218868437227405311 == some Ordering.gt) = decide (I ≤ rung b) := by
    rw [gtB, n1, ord_rung, show nanB 9218868437227405311 = false by decide, show ord 9218868437227405311 = (I : Int) - 1 by decide, Bool.eq_iff_iff]
    simp; omega
  have g2 : (FloatKind.f64.format.order (rung b) 18442240474082181119 == some Ordering.lt) = false := by
    rw [ltB, n1, ord_rung, show nanB 18442240474082181119 = false by decide, show ord 18442240474082181119 = -((I : Int) - 1) by decide]
    have hI : 0 < I := by decide
    simp; omega
  clear h n1
  cases h1 : decide (I ≤ rung b)
  all_goals
    rw [h1] at g1
    clear h1
    go_enter Tryd.func34, Tryd.ntmps34
    go_wp2_with (go_at_call 33; refine (abs_any _ _ hb).mono ?_; rintro e w' ⟨rfl, rfl⟩)
    go_ret
    exact ⟨rfl, rfl⟩

def emptyN : Value → Nat
  | .string b => if b.size = 0 then 1 else 0
  | _ => 0
def DgRel (T : Nat) (w : World) (i s : Value) (wr : World) : Prop :=
  ∃ (u : Nat) (l : List UInt8), u ≤ T ∧ i = .int .u64 u ∧ s = .string ⟨l.toArray⟩ ∧ ((u = 0 ∧ l ≠ [] ∧ l = Lib.decDigits T) ∨ ((0 < u ∨ l = []) ∧ Lib.decDigits u ++ l = Lib.decDigits T)) ∧ Below w.heap.size w wr

theorem one_cell (w : World) (x : Value) (t : TypeId) : (w.alloc (.cells #[x] t)).cell? ((⟨w.heap.size, 0, none⟩ : Addr).add 0) = some x := by simp [Addr.add]
theorem dig_int (u : Nat) : (48 : Int) + (u : Int) % 10 = ((UInt8.ofNat (48 + u % 10)).toNat : Int) := by
  have : 48 + u % 10 < 256 := by omega
  rw [UInt8.toNat_ofNat_of_lt' (by simpa using this)]
  omega
/-- one digit more -/
theorem dig_step {T u : Nat} {l : List UInt8} (h0 : 0 < u) (h : (u = 0 ∧ l ≠ [] ∧ l = Lib.decDigits T) ∨ ((0 < u ∨ l = []) ∧ Lib.decDigits u ++ l = Lib.decDigits T)) :
    (u / 10 = 0 ∧ UInt8.ofNat (48 + u % 10) :: l ≠ [] ∧ UInt8.ofNat (48 + u % 10) :: l = Lib.decDigits T) ∨ ((0 < u / 10 ∨ UInt8.ofNat (48 + u % 10) :: l = []) ∧ Lib.decDigits (u / 10) ++ UInt8.ofNat (48 + u % 10) :: l = Lib.decDigits T) := by
  rcases h with ⟨h, _⟩ | ⟨_, h⟩
  · omega
  · rw [← h]
    by_cases hu : u < 10
    · left
      have e : Lib.decDigits u = [UInt8.ofNat (48 + u)] := Lib.decDigits_one hu
      rw [e, Nat.mod_eq_of_lt hu]
      exact ⟨by omega, by simp, rfl⟩
    · right
      have e : Lib.decDigits u = Lib.decDigits (u / 10) ++ [UInt8.ofNat (48 + u % 10)] := by rw [Lib.decDigits, dif_neg hu]
      rw [e]
      exact ⟨.inl (by omega), by simp⟩

theorem dg_next {T u : Nat} {dg : UInt8} {l : List UInt8} {w wr : World} (hu : u / 10 ≤ T) (h : (u / 10 = 0 ∧ dg :: l ≠ [] ∧ dg :: l = Lib.decDigits T) ∨ ((0 < u / 10 ∨ dg :: l = []) ∧ Lib.decDigits (u / 10) ++ dg :: l = Lib.decDigits T)) (hb : Below w.heap.size w wr) :
    DgRel T w (.int .u64 ((u : Int) / 10)) (.string (⟨#[dg]⟩ ++ ⟨l.toArray⟩)) wr ∧ emptyN (.string (⟨#[dg]⟩ ++ ⟨l.toArray⟩)) = 0 := by
  rw [str_join]
  exact ⟨⟨u / 10, dg :: l, hu, by congr 1, rfl, h, hb⟩, by simp [emptyN, ByteArray.size]⟩

theorem dg_last {T : Nat} {w wr : World} (h : Lib.decDigits 0 ++ [] = Lib.decDigits T) (hb : Below w.heap.size w wr) : DgRel T w (.int .u64 0) (.string ⟨#[48]⟩) wr :=
  ⟨0, [48], by omega, rfl, rfl, .inl ⟨rfl, by simp, by rw [← h, List.append_nil, Lib.decDigits_one (by omega)]; rfl⟩, hb⟩

set_option maxHeartbeats 1000000 in
theorem refText_fin (b : Nat) (w : World) (hb : Fits b) (h : nanB b = false) (hi : ¬ R53 ≤ rung b) (hlen : (Lib.decDigits (trunc (rung b))).length ≤ 21) :
    Calls Tryd.prog 22 #[.float .f64 b] w fun e w' => e = .returned (.string ⟨(signC b :: Lib.decDigits (trunc (rung b))).toArray⟩) ∧ Below w.heap.size w w' := by
  have h' := Lib.hid h
  have n1 : nanB (rung b) = false := by unfold nanB; rw [rung_rung]; exact h
  have hg : (FloatKind.f64.format.order (rung b) 4845873199050653696 == some Ordering.gt || FloatKind.f64.format.order (rung b) 4845873199050653696 == some Ordering.eq) = false := by
    rw [geqB, n1, ord_rung, show nanB 4845873199050653696 = false by decide, show ord 4845873199050653696 = R53 by decide]; simp; omega
  have hcv := conv_u64 (rung b) (by omega)
  have hlt := trunc_lt (rung b)
  obtain ⟨T, hT⟩ : ∃ T, trunc (rung b) = T := ⟨_, rfl⟩
  rw [hT] at hcv hlt hlen ⊢
  have hnI := Lib.hid (show decide (I ≤ rung b) = false by have := R53_I; simp; omega)
  clear h n1 hi hT
  cases hs : neg b
  all_goals
    have hs' := Lib.hid hs
    clear hs
    go_enter Tryd.func22, Tryd.ntmps22
    go_wp2_with (first
      | (go_at_call 27; refine (isNaN_any _ _).mono ?_; rintro e w' ⟨rfl, rfl⟩; rw [h'.out])
      | (go_at_call 32; refine (signbit_any _ _).mono ?_; rintro e w' ⟨rfl, rfl⟩; rw [hs'.out])
      | (go_at_call 33; refine (abs_any _ _ hb).mono ?_; rintro e w' ⟨rfl, rfl⟩)
      | (go_at_call 34; refine (isInf_zero _ _ hb h'.out).mono ?_; rintro e w' ⟨rfl, rfl⟩; rw [hnI.out]))
    go_loopw [5, 6] (fun i s wr => DgRel T w i s wr) (fun i s _ => (intOf i).toNat + emptyN s)
    case atStart => exact ⟨T, [], Nat.le_refl _, rfl, rfl, .inr ⟨.inr rfl, by simp⟩, Below.refl _ _⟩
    case round =>
      obtain ⟨u, l, hu, rfl, rfl, hd, hbel⟩ := hrel
      have hll : l.length ≤ 21 := by
        rcases hd with ⟨_, _, h⟩ | ⟨_, h⟩
        · rw [h]; exact hlen
        · rw [← h, List.length_append] at hlen; omega
      by_cases h0 : 0 < u
      · have g0 : decide ((0 : Int) < (u : Int)) = true := by simp; omega
        have hst := dig_step (T := T) h0 hd
        have hdig := dig_int u
        have hcs := run_convert_bytes_back (P := Tryd.prog) (wr.alloc (.cells #[.int .u8 (48 + (u : Int) % 10)] 5)) 53 9 5 ⟨wr.heap.size, 0, none⟩ 1 [UInt8.ofNat (48 + u % 10)] Tryd.underlying53 Tryd.underlying5 Tryd.underlying9 (fun j hj => by
            obtain rfl : j = 0 := by simpa using hj
            rw [hdig]
            exact one_cell _ _ _)
        generalize UInt8.ofNat (48 + u % 10) = dg at *
        have hcs1 : (convert 53 9 (.slice (some ⟨wr.heap.size, 0, none⟩) 1 1)).run Tryd.prog (wr.alloc (.cells #[.int .u8 (48 + (u : Int) % 10)] 5)) = .ok (.string ⟨#[dg]⟩) (wr.alloc (.cells #[.int .u8 (48 + (u : Int) % 10)] 5)) := hcs
        have hend := Lib.hid (dg_next (w := w) (by omega) hst (hbel.alloc hbel.size (.cells #[.int .u8 (48 + (u : Int) % 10)] 5)))
        have hbs := hbel.size
        clear hbel hd hst hdig hcs
        go_wp2_with fail
        exact ⟨hend.out.1, by have := hend.out.2; simp only [intOf]; omega⟩
      · obtain rfl : u = 0 := by omega
        rcases hd with ⟨_, h1, h2⟩ | ⟨h1, h2⟩
        · have hbel' := Lib.hid hbel
          have h2' := Lib.hid h2
          have g1 : ¬ l = [] := h1
          have g2 : l.isEmpty = false := by simpa using h1
          clear hbel h1 h2
          go_wp2_with fail
          go_ret
          exact ⟨ret_string (by rw [← h2'.out]; first | rw [signC_pos hs'.out]; exact str_join _ _ | rw [signC_neg hs'.out]; exact str_join _ _), hbel'.out⟩
        · obtain rfl : l = [] := by rcases h1 with h | h; omega; exact h
          have hcs : (convert 53 9 (.slice (some ⟨wr.heap.size, 0, none⟩) 1 1)).run Tryd.prog (wr.alloc (.cells #[.int .u8 48] 5)) = .ok (.string ⟨#[48]⟩) (wr.alloc (.cells #[.int .u8 48] 5)) :=
            run_convert_bytes_back (P := Tryd.prog) _ _ _ 5 _ 1 [48] Tryd.underlying53 Tryd.underlying5 Tryd.underlying9 (fun j hj => by
              obtain rfl : j = 0 := by simpa using hj
              exact one_cell _ _ _)
          have hend := Lib.hid (dg_last (w := w) h2 (hbel.alloc hbel.size (.cells #[.int .u8 48] 5)))
          have hbs := hbel.size
          clear hbel h1 h2
          go_wp2_with fail
          exact ⟨hend.out, by simp [intOf, emptyN, ByteArray.size]⟩

set_option maxHeartbeats 1000000 in
theorem refText_nan (b : Nat) (w : World) (hb : Fits b) (h : nanB b = true) :
    Calls Tryd.prog 22 #[.float .f64 b] w fun e w' => e = .returned (.string ⟨(textB b).toArray⟩) ∧ Below w.heap.size w w' := by
  have e : textB b = [110, 97, 110] := by unfold textB; rw [if_pos h]
  rw [e]
  have h' := Lib.hid h
  clear e h
  cases hs : neg b
  all_goals
    have hs' := Lib.hid hs
    clear hs
    go_enter Tryd.func22, Tryd.ntmps22
    go_wp2_with (first
      | (go_at_call 27; refine (isNaN_any _ _).mono ?_; rintro e w' ⟨rfl, rfl⟩; rw [h'.out])
      | (go_at_call 32; refine (signbit_any _ _).mono ?_; rintro e w' ⟨rfl, rfl⟩; rw [hs'.out])
      | (go_at_call 33; refine (abs_any _ _ hb).mono ?_; rintro e w' ⟨rfl, rfl⟩))
    go_ret
    exact ⟨rfl, Below.refl _ _⟩

set_option maxHeartbeats 1000000 in
theorem refText_big (b : Nat) (w : World) (hb : Fits b) (h : nanB b = false) (hi : R53 ≤ rung b) :
    Calls Tryd.prog 22 #[.float .f64 b] w fun e w' => e = .returned (.string ⟨(textB b).toArray⟩) ∧ Below w.heap.size w w' := by
  have h' := Lib.hid h
  have n1 : nanB (rung b) = false := by unfold nanB; rw [rung_rung]; exact h
  have hg : (FloatKind.f64.format.order (rung b) 4845873199050653696 == some Ordering.gt || FloatKind.f64.format.order (rung b) 4845873199050653696 == some Ordering.eq) = true := by
    rw [geqB, n1, ord_rung, show nanB 4845873199050653696 = false by decide, show ord 4845873199050653696 = R53 by decide]; simp; omega
  have hle : rung b ≤ I := by simp [nanB] at h; omega
  by_cases hI : I ≤ rung b
  · have hnI := Lib.hid (show decide (I ≤ rung b) = true by simpa using hI)
    have e : textB b = [signC b, 105, 110, 102] := by unfold textB; rw [if_neg (by rw [h]; decide), if_pos (by omega)]
    clear h n1 hi hle hI
    cases hs : neg b
    all_goals
      have hs' := Lib.hid hs
      have e' := Lib.hid e
      clear hs e
      go_enter Tryd.func22, Tryd.ntmps22
      go_wp2_with (first
        | (go_at_call 27; refine (isNaN_any _ _).mono ?_; rintro e w' ⟨rfl, rfl⟩; rw [h'.out])
        | (go_at_call 32; refine (signbit_any _ _).mono ?_; rintro e w' ⟨rfl, rfl⟩; rw [hs'.out])
        | (go_at_call 33; refine (abs_any _ _ hb).mono ?_; rintro e w' ⟨rfl, rfl⟩)
        | (go_at_call 34; refine (isInf_zero _ _ hb h'.out).mono ?_; rintro e w' ⟨rfl, rfl⟩; rw [hnI.out]))
      go_ret
      exact ⟨ret_string (by rw [e'.out]; first | rw [signC_pos hs'.out]; decide | rw [signC_neg hs'.out]; decide), Below.refl _ _⟩
  · have hnI := Lib.hid (show decide (I ≤ rung b) = false by simpa using hI)
    have e : textB b = [109, 97, 110, 121] := by unfold textB; rw [if_neg (by rw [h]; decide), if_neg (by omega), if_pos hi]
    rw [e]
    clear h n1 hi hle hI e
    cases hs : neg b
    all_goals
      have hs' := Lib.hid hs
      clear hs
      go_enter Tryd.func22, Tryd.ntmps22
      go_wp2_with (first
        | (go_at_call 27; refine (isNaN_any _ _).mono ?_; rintro e w' ⟨rfl, rfl⟩; rw [h'.out])
        | (go_at_call 32; refine (signbit_any _ _).mono ?_; rintro e w' ⟨rfl, rfl⟩; rw [hs'.out])
        | (go_at_call 33; refine (abs_any _ _ hb).mono ?_; rintro e w' ⟨rfl, rfl⟩)
        | (go_at_call 34; refine (isInf_zero _ _ hb h'.out).mono ?_; rintro e w' ⟨rfl, rfl⟩; rw [hnI.out]))
      go_ret
      exact ⟨rfl, Below.refl _ _⟩

theorem refText_any (b : Nat) (w : World) (hb : Fits b) :
    Calls Tryd.prog 22 #[.float .f64 b] w fun e w' => e = .returned (.string ⟨(textB b).toArray⟩) ∧ Below w.heap.size w w' := by
  cases h : nanB b
  · by_cases hi : R53 ≤ rung b
    · exact refText_big b w hb h hi
    · have hlt := trunc_lt (rung b)
      have hl := Lib.itoa_length_le (trunc (rung b) : Nat) (by omega) (by omega)
      have e0 : Lib.itoa ((trunc (rung b) : Nat) : Int) = Lib.decDigits (trunc (rung b)) := by unfold Lib.itoa; rw [if_neg (by omega)]; rfl
      have e : textB b = signC b :: Lib.decDigits (trunc (rung b)) := by
        unfold textB
        rw [if_neg (by rw [h]; decide), if_neg (by have := R53_I; omega), if_neg hi, e0]
      rw [e]
      rw [e0] at hl
      exact refText_fin b w hb h hi hl
  · exact refText_nan b w hb h
end Go.Proofs.YtdnemlanahlnpaaDoor
