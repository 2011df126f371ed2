/-
  What the document's own Open tells.
-/
import Derived.Test.YtbeaodmjobdiaaaYk
namespace Go.Proofs.Ytbeaodmjobdiaaa
open Go.RowKit BigFrame

def RefOpenPost (l : List Nat) (w : World) (e : Ending) (w' : World) : Prop :=
  ∃ g cap, e = .returned (.tuple #[.slice (some ⟨g, 0, none⟩) 123 cap, .int .i64 0]) ∧ w.heap.size ≤ g ∧ BAt w' (some ⟨g, 0, none⟩) (bodyOf l) ∧ Below w.heap.size w w'

/-- the same, and its room -/
def RefOpenRoom (l : List Nat) (w : World) (e : Ending) (w' : World) : Prop :=
  ∃ g cap, e = .returned (.tuple #[.slice (some ⟨g, 0, none⟩) 123 cap, .int .i64 0]) ∧ 123 ≤ cap ∧ w.heap.size ≤ g ∧ BAt w' (some ⟨g, 0, none⟩) (bodyOf l) ∧ Below w.heap.size w w'

set_option maxHeartbeats 400000 in
theorem refOpen_room (kind : Nat) (a : Option Addr) (cap n : Nat) (l : List Nat) (w : World) (hn : l.length = n) (hk0 : 0 < kind) (hk : kindOf l = kind) (ho : Octs l) (hc : n ≤ cap) (hx : BAt w a l) :
    Calls Try.prog 27 #[.int .u8 (kind : Int), .slice a n cap] w (RefOpenRoom l w) := by
  have h128 : l.length = 128 := kindOf_len (by omega)
  obtain rfl : n = 128 := by omega
  obtain ⟨b, off, rfl⟩ := hx.addr (by omega)
  have t1 : ((kind : Int) == 0) = false := by rw [beq_eq_false_iff_ne]; omega
  have hx' := Lib.hid hx
  have ho' := Lib.hid ho
  have hk' := Lib.hid hk
  have hn' := Lib.hid hn
  have hb' := Lib.hid (bodyOf_length hn)
  clear hx ho hk hn h128
  go_enter Try.func27, Try.ntmps27
  go_wp2_with (first
    | (go_at_call 38; refine (refKind_is _ _ _ _ hk'.out hn'.out ho'.out hc hx'.out).mono ?_; rintro e w1 ⟨rfl, hb1⟩; have hb1' := Lib.hid hb1; have hz := hb1.size; clear hb1)
    | (at_builtin; refine wpList_append_bytes rfl (.const (.slice none 0 0)) (.tmp 15) rfl w.heap.size (.slice none 0 0) [] rfl (OwnB.nil _ _) (some ⟨b, off + 1, none⟩) 123 (cap - 1) (bodyOf l) rfl hb'.out ((hx'.out.sub 1 123).on hb1'.out (Nat.le_refl _)) (fun h => by cases h) (by simp) hz ?_))
  intro v2 w2 hv2 _ hb2
  have hv : OwnB w2 w.heap.size v2 (bodyOf l) := hv2.out
  obtain ⟨g, c, rfl, hcg, hg, _, hbt⟩ := hv.form (by rw [hb'.out]; omega)
  rw [hb'.out] at hcg ⊢
  have hend := Lib.hid (show RefOpenRoom l w (.returned (.tuple #[.slice (some ⟨g, 0, none⟩) 123 c, .int .i64 0])) w2 from ⟨g, c, rfl, hcg, hg, hbt, hb1'.out.trans hb2⟩)
  clear hv hv2 hb2 hbt hcg
  go_wp2_with fail
  go_ret2
  exact hend.out
theorem refOpen_good (kind : Nat) (a : Option Addr) (cap n : Nat) (l : List Nat) (w : World) (hn : l.length = n) (hk0 : 0 < kind) (hk : kindOf l = kind) (ho : Octs l) (hc : n ≤ cap) (hx : BAt w a l) :
    Calls Try.prog 27 #[.int .u8 (kind : Int), .slice a n cap] w (RefOpenPost l w) :=
  (refOpen_room kind a cap n l w hn hk0 hk ho hc hx).mono fun _ _ ⟨g, c, h1, _, h2⟩ => ⟨g, c, h1, h2⟩
theorem refOpen_zero (a : Option Addr) (cap n : Nat) (w : World) :
    Calls Try.prog 27 #[.int .u8 0, .slice a n cap] w fun e w' => e = .returned (.tuple #[.slice none 0 0, .int .i64 3]) ∧ w = w' := by
  go_enter Try.func27, Try.ntmps27
  go_wp2_with fail
  go_ret2
  exact ⟨rfl, rfl⟩
theorem refOpen_bad (kind k : Nat) (a : Option Addr) (cap n : Nat) (l : List Nat) (w : World) (hn : l.length = n) (hk : kindOf l = k) (hne : kind = 0 ∨ k ≠ kind) (ho : Octs l) (hc : n ≤ cap) (hx : BAt w a l) :
    Calls Try.prog 27 #[.int .u8 (kind : Int), .slice a n cap] w fun e w' => e = .returned (.tuple #[.slice none 0 0, .int .i64 3]) ∧ Below w.heap.size w w' := by
  by_cases h0 : kind = 0
  · subst h0; exact (refOpen_zero a cap n w).mono fun _ _ ⟨he, hw⟩ => ⟨he, hw ▸ Below.refl _ _⟩
  · have t1 : ((kind : Int) == 0) = false := by rw [beq_eq_false_iff_ne]; omega
    have t2 : ((k : Int) != (kind : Int)) = true := by rw [bne_iff_ne]; omega
    have hx' := Lib.hid hx
    have ho' := Lib.hid ho
    have hk' := Lib.hid hk
    have hn' := Lib.hid hn
    clear hx ho hk hn hne
    go_enter Try.func27, Try.ntmps27
    go_wp2_with (go_at_call 38; refine (refKind_is _ _ _ _ hk'.out hn'.out ho'.out hc hx'.out).mono ?_; rintro e w1 ⟨rfl, hb1⟩; have hb1' := Lib.hid hb1; clear hb1)
    go_ret2
    exact ⟨rfl, hb1'.out⟩
end Go.Proofs.Ytbeaodmjobdiaaa
