/-
  What the document's own Seal makes.
-/
import Derived.Test.YtbeaodmjobdiaaaAp
import Derived.Test.YtbeaodmjobdiaaaZk
import Derived.Test.YtbeaodmjobdiaaaYs
namespace Go.Proofs.Ytbeaodmjobdiaaa
open Go.RowKit BigFrame

def RefSealPost (kind : Nat) (l : List Nat) (w : World) (e : Ending) (w' : World) : Prop :=
  ∃ g cap, e = .returned (.tuple #[.slice (some ⟨g, 0, none⟩) 128 cap, .int .i64 0]) ∧ w.heap.size ≤ g ∧ 128 ≤ cap ∧ BAt w' (some ⟨g, 0, none⟩) (sealed kind l) ∧ Below w.heap.size w w'

set_option maxHeartbeats 400000 in
theorem refSeal_any (kind : Nat) (a : Option Addr) (cap n : Nat) (l : List Nat) (w : World) (hn : l.length = n) (hk0 : 0 < kind) (hk : kind < 256) (ho : Octs l) (hl : n ≤ 123) (hx : BAt w a l) (hnil : a = none → cap = 0) :
    Calls Try.prog 22 #[.int .u8 (kind : Int), .slice a n cap] w (RefSealPost kind l w) := by
  subst hn
  have t1 : ((kind : Int) == 0) = false := by rw [beq_eq_false_iff_ne]; omega
  obtain ⟨k, hk'⟩ : ∃ k, 123 - l.length = k := ⟨_, rfl⟩
  have t2 : (123 : Int) - (l.length : Int) = (k : Int) := by omega
  have hx' := Lib.hid hx
  have ho' := Lib.hid ho
  have hnil' := Lib.hid hnil
  have hk1 := Lib.hid hk'
  clear hx ho hnil hk'
  have hb0 := (Below.refl w.heap.size w).alloc (Nat.le_refl _) (.cells (bv [kind]).toArray 5)
  have e0 : (bv [kind]).toArray = #[Value.int .u8 (kind : Int)] := rfl
  have hx1 := Lib.hid (hx'.out.on hb0 (Nat.le_refl _))
  have ho0 := Lib.hid (OwnB.made w [kind] w.heap.size (Nat.le_refl _) (by simp))
  rw [e0] at hx1 ho0
  clear hb0 e0
  go_enter Try.func22, Try.ntmps22
  go_wp2_with (at_builtin; refine wpList_append_bytes rfl (.tmp 16) (.tmp 17) rfl w.heap.size _ [kind] rfl ho0.out a _ cap l rfl rfl hx1.out hnil'.out (by simp; omega) (by simp) ?_)
  intro v1 w1 hv1 _ hb1
  have hv1' : OwnB w1 w.heap.size v1 (kind :: l) := hv1.out
  obtain ⟨g1, c1, rfl, hc1, hg1, hg1', _⟩ := hv1'.form (by simp)
  have hb1' := Lib.hid ((((Below.refl w.heap.size w).alloc (Nat.le_refl _) _).trans hb1))
  have hlen1 : (kind :: l).length = l.length + 1 := rfl
  rw [hlen1] at hv1 hc1 ⊢
  have hz := hb1'.out.size
  clear hb1 hv1' hx1 ho0 hlen1
  go_wp2_with (at_builtin; refine wpList_append_zeros rfl (.tmp 19) (.tmp 22) rfl w.heap.size g1 (l.length + 1) c1 k (kind :: l) rfl hv1.out rfl rfl (by omega) hz ?_)
  intro v2 w2 hv2 _ hb2
  have hf : OwnB w2 w.heap.size v2 (front kind l) := by
    have := hv2.out
    rw [← hk1.out] at this
    exact this
  obtain ⟨g2, c2, rfl, hc2, hg2, hg2', hbt2⟩ := hf.form (by rw [front_length hl]; omega)
  rw [front_length hl] at hf hc2 ⊢
  have hb2' := Lib.hid (hb1'.out.trans hb2)
  have hf' := Lib.hid hf
  have hbt2' := Lib.hid hbt2
  have hz2 := hb2'.out.size
  have hfo := Lib.hid (front_octs hk ho'.out)
  have hfl := Lib.hid (front_length (kind := kind) hl)
  obtain ⟨s, hs⟩ : ∃ s, s = sumOf (front kind l) := ⟨_, rfl⟩
  have hs' := Lib.hid hs
  have hslt : s < 4294967296 := by rw [hs]; exact sumOf_lt _
  clear hb2 hf hbt2 hv2 hv1 hs
  have e4 : (bv (be4 s)).toArray = #[Value.int .u8 ((s : Int) / 16777216), .int .u8 ((s : Int) / 65536 % 256), .int .u8 ((s : Int) / 256 % 256), .int .u8 ((s : Int) % 256)] := by
    have e : s / 16777216 % 256 = s / 16777216 := by omega
    simp [bv, be4, e]
  have hb3 := (Below.refl w2.heap.size w2).alloc (Nat.le_refl _) (.cells (bv (be4 s)).toArray 5)
  have hr3 := Lib.hid (row_alloc w2 (be4 s)).bat
  have ho3 := Lib.hid (hf'.out.on hb3 (Nat.le_refl _))
  have hb3' := Lib.hid (hb2'.out.alloc hz2 (.cells (bv (be4 s)).toArray 5))
  rw [e4] at hr3 ho3 hb3'
  clear hb3 e4
  go_wp2_with (first
    | (go_at_call 36; refine (refSum_is _ _ _ _ hs'.out hfl.out hfo.out (by omega) hbt2'.out).mono ?_; rintro e w3 ⟨rfl, rfl⟩)
    | (at_builtin; refine wpList_append_bytes rfl (.tmp 26) (.tmp 38) rfl w.heap.size _ (front kind l) rfl ho3.out _ 4 4 (be4 s) rfl rfl hr3.out (by simp) (by rw [hfl.out]; omega) (by simp; omega) ?_))
  intro v4 w4 hv4 _ hb4
  obtain ⟨g4, c4, rfl, hc4, hg4, _, hbt4⟩ := hv4.out.form (by rw [List.length_append, hfl.out]; omega)
  have e128 : (front kind l ++ be4 s).length = 128 := by rw [List.length_append, hfl.out]; rfl
  have es : front kind l ++ be4 s = sealed kind l := by rw [hs'.out]; rfl
  rw [es] at hbt4 e128
  rw [es, e128] at hc4 ⊢
  have hend := Lib.hid (show RefSealPost kind l w (.returned (.tuple #[.slice (some ⟨g4, 0, none⟩) 128 c4, .int .i64 0])) w4 from ⟨g4, c4, rfl, hg4, hc4, hbt4, hb3'.out.trans hb4⟩)
  clear hv4 hb4 hbt4 es e128 hc4
  go_wp2_with fail
  go_ret2
  exact hend.out
theorem refSeal_zero (a : Option Addr) (cap n : Nat) (w : World) :
    Calls Try.prog 22 #[.int .u8 0, .slice a n cap] w fun e w' => e = .returned (.tuple #[.slice none 0 0, .int .i64 2]) ∧ w = w' := by
  go_enter Try.func22, Try.ntmps22
  go_wp2_with fail
  go_ret2
  exact ⟨rfl, rfl⟩
theorem refSeal_long (kind : Nat) (a : Option Addr) (cap n : Nat) (w : World) (hn : 123 < n) :
    Calls Try.prog 22 #[.int .u8 (kind : Int), .slice a n cap] w fun e w' => e = .returned (.tuple #[.slice none 0 0, .int .i64 2]) ∧ w = w' := by
  by_cases h0 : kind = 0
  · subst h0; exact refSeal_zero a cap n w
  · have t1 : ((kind : Int) == 0) = false := by rw [beq_eq_false_iff_ne]; omega
    go_enter Try.func22, Try.ntmps22
    go_wp2_with fail
    go_ret2
    exact ⟨rfl, rfl⟩
end Go.Proofs.Ytbeaodmjobdiaaa
