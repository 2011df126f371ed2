/-
  What Open tells.
-/
import Derived.Test.YtbeaodmjobdiaaaZk
namespace Go.Proofs.Ytbeaodmjobdiaaa
open Go.RowKit BigFrame

def OpenPost (l : List Nat) (w : World) (e : Ending) (w' : World) : Prop :=
  ∃ g, e = .returned (.tuple #[.slice (some ⟨g, 0, none⟩) 123 123, .int .i64 0]) ∧ w.heap.size ≤ g ∧ Row w' g (bodyOf l) ∧ Below w.heap.size w w'

set_option maxHeartbeats 400000 in
theorem open_good (kind : Nat) (a : Option Addr) (cap n : Nat) (l : List Nat) (w : World) (hn : l.length = n) (hk0 : 0 < kind) (hk : kindOf l = kind) (ho : Octs l) (hc : n ≤ cap) (hx : BAt w a l) :
    Calls Try.prog 23 #[.int .u8 (kind : Int), .slice a n cap] w (OpenPost l w) := by
  have h128 : l.length = 128 := kindOf_len (by omega)
  obtain rfl : n = 128 := by omega
  obtain ⟨b, off, rfl⟩ := hx.addr (by omega)
  have t1 : ((kind : Int) == 0) = false := by rw [beq_eq_false_iff_ne]; omega
  have hx' := Lib.hid hx
  have ho' := Lib.hid ho
  have hk' := Lib.hid hk
  have hn' := Lib.hid hn
  have hb' := Lib.hid (bodyOf_length hn)
  clear hx ho hk hn h128
  go_enter Try.func23, Try.ntmps23
  go_wp2_with (first
    | (go_at_call 37; refine (kind_is _ _ _ _ hk'.out hn'.out ho'.out hc hx'.out).mono ?_; rintro e w1 ⟨rfl, m, rfl⟩)
    | (at_make; refine wpList_make_bytes rfl _ _ rfl 123 rfl rfl (by decide) ?_))
  intro g w1 hr hg hb
  have hbb := Lib.hid ((below_drewN w m).trans hb)
  clear hb
  go_wp2_with (refine wpList_copy_bytes rfl (.tmp 16) (.tmp 18) rfl g 0 123 123 (some ⟨b, off + 1, none⟩) 123 (cap - 1) _ (bodyOf l) rfl rfl hb'.out hr.out ((hx'.out.sub 1 123).on hbb.out (Nat.le_refl _)) (by rw [zs_length]; omega) w.heap.size w hbb.out hg ?_)
  intro w2 hr2 hb2
  have e : splice (zs 123) 0 (List.take 123 (bodyOf l)) = bodyOf l := by
    unfold splice
    rw [List.take_of_length_le (l := bodyOf l) (by rw [hb'.out]; omega), List.take_zero, List.nil_append, hb'.out, List.drop_of_length_le (by rw [zs_length]; omega), List.append_nil]
  have hend := Lib.hid (show OpenPost l w (.returned (.tuple #[.slice (some ⟨g, 0, none⟩) 123 123, .int .i64 0])) w2 from ⟨g, rfl, hg, by have := hr2.out; rwa [e] at this, hb2⟩)
  clear hr2 hb2 e
  go_wp2_with fail
  go_ret2
  exact hend.out
theorem open_zero (a : Option Addr) (cap n : Nat) (w : World) :
    Calls Try.prog 23 #[.int .u8 0, .slice a n cap] w (Told (.tuple #[.slice none 0 0, .int .i64 3]) w) := by
  go_enter Try.func23, Try.ntmps23
  go_wp2_with fail
  go_ret2
  exact ⟨rfl, 0, rfl⟩
theorem open_bad (kind k : Nat) (a : Option Addr) (cap n : Nat) (l : List Nat) (w : World) (hn : l.length = n) (hk : kindOf l = k) (hne : kind = 0 ∨ k ≠ kind) (ho : Octs l) (hc : n ≤ cap) (hx : BAt w a l) :
    Calls Try.prog 23 #[.int .u8 (kind : Int), .slice a n cap] w (Told (.tuple #[.slice none 0 0, .int .i64 3]) w) := by
  by_cases h0 : kind = 0
  · subst h0; exact open_zero a cap n w
  · have t1 : ((kind : Int) == 0) = false := by rw [beq_eq_false_iff_ne]; omega
    have t2 : ((k : Int) != (kind : Int)) = true := by rw [bne_iff_ne]; omega
    have hx' := Lib.hid hx
    have ho' := Lib.hid ho
    have hk' := Lib.hid hk
    have hn' := Lib.hid hn
    clear hx ho hk hn hne
    go_enter Try.func23, Try.ntmps23
    go_wp2_with (go_at_call 37; refine (kind_is _ _ _ _ hk'.out hn'.out ho'.out hc hx'.out).mono ?_; rintro e w1 ⟨rfl, m, rfl⟩)
    go_ret2
    exact ⟨rfl, _, rfl⟩
end Go.Proofs.Ytbeaodmjobdiaaa
