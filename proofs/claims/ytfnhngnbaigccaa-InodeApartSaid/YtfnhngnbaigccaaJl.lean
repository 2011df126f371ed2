/-
  Numbers of two bytes, as the document's own answer writes and reads them.
-/
import Derived.Test.YtfnhngnbaigccaaPi
import Derived.Test.YtfnhngnbaigccaaPa
import Derived.Test.YtfnhngnbaigccaaSe
import Derived.Test.YtfnhngnbaigccaaTe
import Derived.RegionTactic
import Derived.BigRegion
namespace Go.Proofs.Ytfnhngnbaigccaa
open Go.RowKit BigFrame

set_option maxHeartbeats 1000000 in
theorem two_any (base : Nat) (v : Value) (L : List Nat) (n : Nat) (w : World) (hown : OwnB w base v L) (_hn : n < 9223372036854775808) (hL : L.length ≤ 1000) (hb : base ≤ w.heap.size) :
    Calls Try.prog 26 #[v, .int .i64 (n : Int)] w fun e w' => ∃ v', e = .returned v' ∧ OwnB w' base v' (L ++ be 2 n) ∧ w.grownBy w' v.ownBlock := by
  have e0 : (bv (be 2 n)).toArray = #[Value.int .u8 ((n : Int) / 256 % 256), .int .u8 ((n : Int) % 256)] := by simp [bv, be_two]
  have hr := (row_alloc w (be 2 n)).bat
  have hbA := (Below.refl w.heap.size w).alloc (Nat.le_refl _) (.cells (bv (be 2 n)).toArray 5)
  have ho := hown.on hbA (Nat.le_refl _)
  rw [e0] at hr ho
  have hr' := Lib.hid hr
  have ho' := Lib.hid ho
  have hlen := Lib.hid (be_length 2 n)
  clear e0 hr hbA ho hown
  go_enter Try.func26, Try.ntmps26
  go_wp2_with (at_builtin; refine wpList_append_bytes rfl (.tmp 5) (.tmp 11) rfl base v L rfl ho'.out (some ⟨w.heap.size, 0, none⟩) 2 2 (be 2 n) rfl hlen.out hr'.out (fun h => by cases h) (by omega) (by simp; omega) ?_; intro v2 w2 hv2 hg2 hb2; have hG2 := Lib.hid hg2; clear hb2 hg2)
  go_ret
  exact ⟨v2, rfl, hv2.out, grownBy_trans (grownBy_alloc w _ _) hG2.out⟩
/-- the number that n bytes from o on tell -/
def gt (b : List Nat) (o n : Nat) : Int := ((rdN ((b.drop o).take n) : Nat) : Int)
theorem gt_two {b : List Nat} {k : Nat} (h : k + 1 < b.length) : gt b k 2 = ((bz b k * 256 + bz b (k + 1) : Nat) : Int) := by
  unfold gt
  have e : (b.drop k).take 2 = [bz b k, bz b (k + 1)] := by
    rw [List.drop_eq_getElem_cons (by omega), List.drop_eq_getElem_cons h, bz_get (by omega), bz_get h]
    rfl
  rw [e]
  simp [rdN]
theorem at_any (g off n cap k : Nat) (K : Int) (b : List Nat) (w : World) (hK : K = (k : Int)) (hn : b.length = n) (ho : Octs b) (hk : k + 1 < n) (hn2 : n ≤ 1000) (hx : BAt w (some ⟨g, off, none⟩) b) :
    Calls Try.prog 32 #[.slice (some ⟨g, off, none⟩) n cap, .int .i64 K] w (Told (.int .i64 (gt b k 2)) w) := by
  subst hK
  have q1 := hx.cell (k := k) (by omega)
  have q2 := hx.cell (k := k + 1) (by omega)
  have h1 := ho k (by omega)
  have h2 := ho (k + 1) (by omega)
  have hv := Lib.hid (gt_two (b := b) (k := k) (by omega))
  obtain ⟨x, hxx⟩ : ∃ x, bz b k = x := ⟨_, rfl⟩
  obtain ⟨y, hyy⟩ : ∃ y, bz b (k + 1) = y := ⟨_, rfl⟩
  rw [hxx] at q1 h1 hv
  rw [hyy] at q2 h2 hv
  obtain ⟨r, hr⟩ : ∃ r, k + 1 = r := ⟨_, rfl⟩
  have m1 : (k : Int) + 1 = (r : Int) := by omega
  have m2 : IntKind.i64.wrap (r : Int) = (r : Int) := wrap_in (by omega)
  have p0 : (0 : Int) ≤ (k : Int) := by omega
  have p1 : (k : Int) < (n : Int) := by omega
  have p2 : (0 : Int) ≤ (r : Int) := by omega
  have p3 : (r : Int) < (n : Int) := by omega
  rw [hr] at q2
  have hj := Lib.hid (i64_join 8 (x * 256) y (by omega) (by omega) (by omega) (by omega))
  clear hxx hyy hx ho hr hn hk hn2
  obtain ⟨V, hV⟩ : ∃ V, gt b k 2 = V := ⟨_, rfl⟩
  rw [hV] at hv ⊢
  clear hV
  go_enter Try.func32, Try.ntmps32
  go_wp2_with fail
  go_region
  go_wp2_with fail
  go_ret
  refine ⟨ret_int ?_, 1, rfl⟩
  rw [hv.out, ← hj.out]
  rw [show ((x * 256 : Nat) : Int) = (x : Int) * 256 by omega]
end Go.Proofs.Ytfnhngnbaigccaa
