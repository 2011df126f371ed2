/-
  The text that bytes spell, if they do.
-/
import Derived.Test.YtkeihpenelpblaaTx
import Derived.Test.YtkeihpenelpblaaPb
namespace Go.Proofs.Ytkeihpenelpblaa
open Go.RowKit BigFrame

def gtOk (n : Nat) (X : List Nat) : Bool := decide (1 + bz X 0 ≤ n) && blanked (X.drop (1 + bz X 0))
def gtS (n : Nat) (X : List Nat) : ByteArray := if gtOk n X = true then strOf ((X.drop 1).take (bz X 0)) else ⟨#[]⟩
def gtV (n : Nat) (X : List Nat) : Value := .tuple #[.string (gtS n X), .bool (gtOk n X)]
theorem gtV_no {n : Nat} {X : List Nat} (h : gtOk n X = false) : gtV n X = .tuple #[.string ⟨#[]⟩, .bool false] := by unfold gtV gtS; rw [h]; rfl
theorem gtV_yes {n : Nat} {X : List Nat} (h : gtOk n X = true) : gtV n X = .tuple #[.string (strOf ((X.drop 1).take (bz X 0))), .bool true] := by unfold gtV gtS; rw [h]; rfl

set_option maxHeartbeats 1000000 in
theorem getText_any (g off n c : Nat) (X : List Nat) (w : World) (hX : X.length = n) (ho : Octs X) (h2 : 2 ≤ n) (hn : n ≤ 250) (hc : n ≤ c) (hx : BAt w (some ⟨g, off, none⟩) X) :
    Calls Try.prog 35 #[.slice (some ⟨g, off, none⟩) n c] w fun e w' => e = .returned (gtV n X) ∧ w = w' := by
  have c0 := hx.cell (k := 0) (by omega)
  rw [Nat.add_zero] at c0
  have hno := Lib.hid (gtV_no (n := n) (X := X))
  have hyes := Lib.hid (gtV_yes (n := n) (X := X))
  have hok := Lib.hid (show gtOk n X = (decide (1 + bz X 0 ≤ n) && blanked (X.drop (1 + bz X 0))) from rfl)
  obtain ⟨O, hO⟩ : ∃ O, gtOk n X = O := ⟨_, rfl⟩
  obtain ⟨x, hxe⟩ : ∃ x, bz X 0 = x := ⟨_, rfl⟩
  have hx8 : x < 256 := by rw [← hxe]; exact ho 0 (by omega)
  rw [hxe] at c0 hok hyes
  rw [hO] at hok hyes hno
  obtain ⟨V, hV⟩ : ∃ V, gtV n X = V := ⟨_, rfl⟩
  rw [hV] at hno hyes ⊢
  obtain ⟨r, hr⟩ : ∃ r, 1 + x = r := ⟨_, rfl⟩
  rw [hr] at hok
  have e1 : 1 + (x : Int) = (r : Int) := by omega
  have hr' := Lib.hid hr
  have hX' := Lib.hid hX
  have ho' := Lib.hid ho
  have hx' := Lib.hid hx
  have p0 : (0 : Int) ≤ (r : Int) := by omega
  have p1 : (1 : Int) ≤ (r : Int) := by omega
  have n1 : ¬ c = 1 := by omega
  have q1 := fun h : r ≤ n => run_string (w := w) (a := some ⟨g, off + 1, none⟩) (n := r - 1) (cap := c - 1) (l := (X.drop 1).take x) (by rw [List.length_take, List.length_drop]; omega) ((ho.drop 1).take x) (hx.sub 1 x)
  obtain ⟨T, hT⟩ : ∃ T, strOf ((X.drop 1).take x) = T := ⟨_, rfl⟩
  rw [hT] at hyes q1
  clear hX ho hx hxe hV hr hO hT
  by_cases hle : r ≤ n
  · rw [decide_eq_true hle, Bool.true_and] at hok
    have q2 := q1 hle
    have p3 : (r : Int) ≤ (n : Int) := by omega
    have p4 : (r : Int) ≤ (c : Int) := by omega
    clear q1
    have hbl0 : BAt w (some ⟨g, off + r, none⟩) (X.drop r) := by
      have := hx'.out.sub r (n - r)
      rwa [List.take_of_length_le (by rw [List.length_drop, hX'.out]; omega)] at this
    have hbl := Lib.hid hbl0
    have hll := Lib.hid (show (X.drop r).length = n - r by rw [List.length_drop, hX'.out])
    clear hbl0
    by_cases hend : r = n
    · obtain rfl := hend
      have hnil : X.drop r = [] := List.drop_of_length_le (by rw [hX'.out]; omega)
      have hok2 := hok.out
      rw [hnil] at hok2
      have hv := Lib.hid (hyes.out (hok2.trans rfl))
      clear hnil hok2 hle p3 p4
      have p3 : (r : Int) ≤ (r : Int) := Int.le_refl _
      have p4 : (r : Int) ≤ (c : Int) := by omega
      have hbe : blanked [] = true := rfl
      go_enter Try.func35, Try.ntmps35
      go_wp2_with (go_at_call 36; refine (blank_any _ _ 0 [] _ rfl (by omega) (.inl rfl)).mono ?_; rw [hbe]; rintro e w1 ⟨rfl, rfl⟩)
      all_goals
        go_ret2
        exact ⟨by rw [hv.out]; rfl, rfl⟩
    · have n2 : ¬ c = r := by omega
      have hlt : (r : Int) < (n : Int) := by omega
      clear hend
      cases hb0 : blanked (X.drop r)
      · have hb := Lib.hid hb0
        have hv := Lib.hid (hno.out (by rw [hok.out, hb0]))
        clear hb0 q2
        go_enter Try.func35, Try.ntmps35
        go_wp2_with (go_at_call 36; refine (blank_any _ _ (n - r) (X.drop r) _ hll.out (by omega) hbl.out).mono ?_; rw [hb.out]; rintro e w1 ⟨rfl, rfl⟩)
        go_ret2
        exact ⟨by rw [hv.out]; rfl, rfl⟩
      · have hb := Lib.hid hb0
        have hv := Lib.hid (hyes.out (by rw [hok.out, hb0]))
        clear hb0
        go_enter Try.func35, Try.ntmps35
        go_wp2_with (go_at_call 36; refine (blank_any _ _ (n - r) (X.drop r) _ hll.out (by omega) hbl.out).mono ?_; rw [hb.out]; rintro e w1 ⟨rfl, rfl⟩)
        go_ret2
        exact ⟨by rw [hv.out]; rfl, rfl⟩
  · rw [decide_eq_false hle] at hok
    have hv := Lib.hid (hno.out hok.out)
    have p3 : ¬ (r : Int) ≤ (n : Int) := by omega
    clear q1
    go_enter Try.func35, Try.ntmps35
    go_wp2_with fail
    go_ret2
    exact ⟨by rw [hv.out]; rfl, rfl⟩
end Go.Proofs.Ytkeihpenelpblaa
