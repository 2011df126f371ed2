/-
  The first place of a byte in a string; may a file have a name?
-/
import Derived.Test.YtkocjkndkkhogaaDoorTx
import Derived.Lib.Bytealg
namespace Go.Proofs.YtkocjkndkkhogaaDoor
open Go.RowKit BigFrame

/-- may a file have it? -/
def nameB (l : List Nat) : Bool := decide (l ≠ [46]) && (decide (l ≠ [46, 46]) && (decide (1 ≤ l.length) && (decide (l.length ≤ 24) && (decide (47 ∉ l) && decide (0 ∉ l)))))
theorem nameB_len {l : List Nat} (h : nameB l = true) : 1 ≤ l.length ∧ l.length ≤ 24 := by
  unfold nameB at h
  simp only [Bool.and_eq_true, decide_eq_true_eq] at h
  exact ⟨h.2.2.1, h.2.2.2.1⟩

theorem idx_no {c : UInt8} : ∀ {l : List UInt8}, c ∉ l → Lib.indexByte l c = -1
  | [], _ => rfl
  | b :: l, h => by
    rw [List.mem_cons, not_or] at h
    have h1 : (b == c) = false := by rw [beq_eq_false_iff_ne]; exact fun e => h.1 e.symm
    unfold Lib.indexByte
    rw [h1, idx_no h.2]
    rfl
theorem idx_yes {c : UInt8} : ∀ {l : List UInt8}, c ∈ l → ∃ p : Nat, Lib.indexByte l c = (p : Int)
  | [], h => by simp at h
  | b :: l, h => by
    by_cases hb : b = c
    · refine ⟨0, ?_⟩
      unfold Lib.indexByte
      rw [show (b == c) = true by rw [beq_iff_eq]; exact hb]
      rfl
    · rw [List.mem_cons] at h
      obtain ⟨p, hp⟩ := idx_yes (h.resolve_left (fun e => hb e.symm))
      refine ⟨p + 1, ?_⟩
      unfold Lib.indexByte
      rw [show (b == c) = false by rw [beq_eq_false_iff_ne]; exact hb, hp]
      simp only [Bool.false_eq_true, if_false]
      rw [show (((p : Int)) == -1) = false by rw [beq_eq_false_iff_ne]; omega]
      simp
theorem mem_nb {s : ByteArray} {c : Nat} (hc : c < 256) : c.toUInt8 ∈ s.data.toList ↔ c ∈ nb s := by
  unfold nb
  rw [List.mem_map]
  constructor
  · intro h
    exact ⟨_, h, by simp [UInt8.toNat_ofNat']; omega⟩
  · rintro ⟨x, hx, rfl⟩
    have e : x.toNat.toUInt8 = x := by simp
    rwa [e]
theorem lite_any (s : ByteArray) (c : Int) (w : World) :
    Calls Tryd.prog 37 #[.string s, .int .u8 c] w fun e w' => e = .returned (.int .i64 (Lib.indexByte s.data.toList c.toNat.toUInt8)) ∧ w = w' := by
  go_enter Tryd.func37, Tryd.ntmps37
  go_wp2
  rw [run_callFunc_extern Tryd.func42 (by kernel_rfl) (by kernel_rfl) (by kernel_rfl) (e := Extern.BytealgIndexByte.indexByte) (by kernel_rfl), Lib.run_indexByteString]
  simp only [Result.andThen]
  rw [Oper.upon_value]
  go_wp2
  go_ret
  exact ⟨rfl, rfl⟩
theorem place_any (s : ByteArray) (c : Int) (w : World) :
    Calls Tryd.prog 30 #[.string s, .int .u8 c] w fun e w' => e = .returned (.int .i64 (Lib.indexByte s.data.toList c.toNat.toUInt8)) ∧ w = w' := by
  go_enter Tryd.func30, Tryd.ntmps30
  go_wp2_with (go_at_call 37; refine (lite_any s c _).mono ?_; rintro e w1 ⟨rfl, rfl⟩)
  go_ret
  exact ⟨rfl, rfl⟩
theorem place_no (s : ByteArray) (C : Int) (c : Nat) (w : World) (hC : C = (c : Int)) (hc : c < 256) (h : c ∉ nb s) :
    Calls Tryd.prog 30 #[.string s, .int .u8 C] w fun e w' => e = .returned (.int .i64 (-1)) ∧ w = w' := by
  subst hC
  have := place_any s (c : Int) w
  rwa [Int.toNat_natCast, idx_no (fun h2 => h ((mem_nb hc).1 h2))] at this
theorem place_yes (s : ByteArray) (C : Int) (c : Nat) (w : World) (hC : C = (c : Int)) (hc : c < 256) (h : c ∈ nb s) :
    Calls Tryd.prog 30 #[.string s, .int .u8 C] w fun e w' => (∃ p : Nat, e = .returned (.int .i64 (p : Int))) ∧ w = w' := by
  subst hC
  obtain ⟨p, hp⟩ := idx_yes ((mem_nb hc).2 h)
  have := place_any s (c : Int) w
  rw [Int.toNat_natCast, hp] at this
  exact this.mono fun _ _ ⟨h1, h2⟩ => ⟨⟨p, h1⟩, h2⟩

theorem toList_data (s : ByteArray) : s.toList = s.data.toList := by
  obtain ⟨⟨l⟩⟩ := s
  rw [ByteArray.toList_mk]
theorem toList_is {s : ByteArray} (l : List Nat) (ho : Octs l) : (s.toList == l.map UInt8.ofNat) = decide (nb s = l) := by
  have h := toList_nb s (strOf l)
  rw [strOf_toList] at h
  rw [h]
  by_cases e : nb s = l
  · rw [decide_eq_true e, decide_eq_true (by rw [← e, strOf_nb])]
  · rw [decide_eq_false e, decide_eq_false (fun h2 => e (by rw [h2, nb_strOf ho]))]
theorem dot_is {s : ByteArray} : (s.toList == [46]) = decide (nb s = [46]) := toList_is [46] (.cons (by omega) .nil)
theorem dots_is {s : ByteArray} : (s.toList == [46, 46]) = decide (nb s = [46, 46]) := toList_is [46, 46] (.cons (by omega) (.cons (by omega) .nil))

theorem name_is (s : ByteArray) (r : Bool) (w : World) (hr : nameB (nb s) = r) :
    Calls Tryd.prog 33 #[.string s] w fun e w' => e = .returned (.bool r) ∧ w = w' := by
  have hl := nb_length s
  have q1 := dot_is (s := s)
  have q2 := dots_is (s := s)
  unfold nameB at hr
  by_cases h1 : nb s = [46]
  · rw [decide_eq_true h1] at q1
    rw [show decide (nb s ≠ [46]) = false from decide_eq_false (fun h => h h1)] at hr
    obtain rfl : false = r := hr
    clear q2 h1 hl
    go_enter Tryd.func33, Tryd.ntmps33
    go_wp2_with fail
    go_ret
    exact ⟨rfl, rfl⟩
  rw [decide_eq_false h1] at q1
  rw [show decide (nb s ≠ [46]) = true from decide_eq_true h1, Bool.true_and] at hr
  by_cases h2 : nb s = [46, 46]
  · rw [decide_eq_true h2] at q2
    rw [show decide (nb s ≠ [46, 46]) = false from decide_eq_false (fun h => h h2)] at hr
    obtain rfl : false = r := hr
    clear h1 h2 hl
    go_enter Tryd.func33, Tryd.ntmps33
    go_wp2_with fail
    go_ret
    exact ⟨rfl, rfl⟩
  rw [decide_eq_false h2] at q2
  rw [show decide (nb s ≠ [46, 46]) = true from decide_eq_true h2, Bool.true_and, hl] at hr
  clear h1 h2 hl
  by_cases h3 : 1 ≤ s.size
  · rw [decide_eq_true h3, Bool.true_and] at hr
    by_cases h4 : s.size ≤ 24
    · rw [decide_eq_true h4, Bool.true_and] at hr
      by_cases h5 : 47 ∈ nb s
      · rw [show decide (47 ∉ nb s) = false from decide_eq_false (fun h => h h5)] at hr
        obtain rfl : false = r := hr
        have h5' := Lib.hid h5
        clear h5
        go_enter Tryd.func33, Tryd.ntmps33
        go_wp2_with (go_at_call 30; refine (place_yes s _ 47 _ rfl (by omega) h5'.out).mono ?_; rintro e w1 ⟨⟨p, rfl⟩, rfl⟩)
        go_ret
        exact ⟨rfl, rfl⟩
      · rw [show decide (47 ∉ nb s) = true from decide_eq_true h5, Bool.true_and] at hr
        have h5' := Lib.hid h5
        clear h5
        by_cases h6 : 0 ∈ nb s
        · rw [show decide (0 ∉ nb s) = false from decide_eq_false (fun h => h h6)] at hr
          obtain rfl : false = r := hr
          have h6' := Lib.hid h6
          clear h6
          have tk : True := trivial
          go_enter Tryd.func33, Tryd.ntmps33
          go_wp2_with (first
            | (go_at_call 30; clear tk; refine (place_no s _ 47 _ rfl (by omega) h5'.out).mono ?_; rintro e w1 ⟨rfl, rfl⟩)
            | (go_at_call 30; refine (place_yes s _ 0 _ rfl (by omega) h6'.out).mono ?_; rintro e w1 ⟨⟨p, rfl⟩, rfl⟩))
          go_ret
          exact ⟨rfl, rfl⟩
        · rw [show decide (0 ∉ nb s) = true from decide_eq_true h6] at hr
          obtain rfl : true = r := hr
          have h6' := Lib.hid h6
          clear h6
          have tk : True := trivial
          go_enter Tryd.func33, Tryd.ntmps33
          go_wp2_with (first
            | (go_at_call 30; clear tk; refine (place_no s _ 47 _ rfl (by omega) h5'.out).mono ?_; rintro e w1 ⟨rfl, rfl⟩)
            | (go_at_call 30; refine (place_no s _ 0 _ rfl (by omega) h6'.out).mono ?_; rintro e w1 ⟨rfl, rfl⟩))
          go_ret
          exact ⟨rfl, rfl⟩
    · rw [decide_eq_false h4] at hr
      obtain rfl : false = r := hr
      go_enter Tryd.func33, Tryd.ntmps33
      go_wp2_with fail
      go_ret
      exact ⟨rfl, rfl⟩
  · rw [decide_eq_false h3] at hr
    obtain rfl : false = r := hr
    go_enter Tryd.func33, Tryd.ntmps33
    go_wp2_with fail
    go_ret
    exact ⟨rfl, rfl⟩
end Go.Proofs.YtkocjkndkkhogaaDoor
