/-
  What a slot's bytes tell.
-/
import Derived.Test.YtpogaognobgfhaaEc
import Derived.Test.YtpogaognobgfhaaPy
import Derived.Test.YtpogaognobgfhaaPg
import Derived.Test.YtpogaognobgfhaaAv
import Derived.Deep.RegionHeld3
namespace Go.Proofs.Ytpogaognobgfhaa
open Go.RowKit BigFrame

theorem okT_is (b : List Nat) : gtOk 25 (b.drop 3) = okT b := by
  unfold gtOk okT
  rw [bz_drop, List.drop_drop]
  have e : (3 + (1 + bz b (3 + 0))) = 4 + bz b 3 := by rw [Nat.add_zero]; omega
  rw [e]
  congr 1
  rw [Nat.add_zero]
  by_cases h : bz b 3 ≤ 24
  · rw [decide_eq_true h, decide_eq_true (by omega)]
  · rw [decide_eq_false h, decide_eq_false (by omega)]
/-- the slot that is told, and whether it could be -/
def tlX (b : List Nat) : Slt := ⟨((rdN (b.take 2) : Nat) : Int), ((rdN ((b.drop 2).take 1) : Nat) : Int), gtS 25 (b.drop 3)⟩
theorem tlX_ok {b : List Nat} (h : okT b = true) : tlX b = tlS b := by
  unfold tlX tlS gtS nmOf
  rw [okT_is, h, if_pos rfl, List.drop_drop, bz_drop]
def toldSV (b : List Nat) : Value := .tuple #[sv (tlX b), .bool (okT b)]

def gd (b : List Nat) (o n : Nat) : Int := ((rdN ((b.drop o).take n) : Nat) : Int)
theorem get_in {w : World} {g off : Nat} {b : List Nat} (hb : b.length = 28) (ho : Octs b) (hx : BAt w (some ⟨g, off, none⟩) b) (o n c O : Nat) (hO : O = off + o) (h : o + n ≤ 28) (hn : n ≤ 7) :
    Calls Try.prog 46 #[.slice (some ⟨g, O, none⟩) n c] w fun e w' => e = .returned (.int .i64 (gd b o n)) ∧ w = w' := by
  subst hO
  exact get_any _ c n ((b.drop o).take n) w (by rw [List.length_take, List.length_drop]; omega) ((ho.drop o).take n) hn (hx.sub o n)

attribute [local go_sem ↓] ldL_of stL_of bdL_of
set_option maxHeartbeats 1000000 in
theorem slotTold_any (g off cap : Nat) (b : List Nat) (w : World) (hb : b.length = 28) (ho : Octs b) (hc : 28 ≤ cap) (hx : BAt w (some ⟨g, off, none⟩) b) :
    Calls Try.prog 32 #[.slice (some ⟨g, off, none⟩) 28 cap] w (Tells (toldSV b) w) := by
  have hgt := Lib.hid (show gtV 25 (b.drop 3) = .tuple #[.string (gtS 25 (b.drop 3)), .bool (okT b)] by unfold gtV; rw [okT_is])
  have hV := Lib.hid (show toldSV b = .tuple #[sv (tlX b), .bool (okT b)] from rfl)
  have htx := Lib.hid (show tlX b = ⟨gd b 0 2, gd b 2 1, gtS 25 (b.drop 3)⟩ from rfl)
  obtain ⟨T, hT⟩ : ∃ T, tlX b = T := ⟨_, rfl⟩
  obtain ⟨n, hn⟩ : ∃ n, gtS 25 (b.drop 3) = n := ⟨_, rfl⟩
  obtain ⟨O, hO⟩ : ∃ O, okT b = O := ⟨_, rfl⟩
  obtain ⟨i, hi⟩ : ∃ i, gd b 0 2 = i := ⟨_, rfl⟩
  obtain ⟨k, hk⟩ : ∃ k, gd b 2 1 = k := ⟨_, rfl⟩
  rw [hT, hO] at hV
  rw [hT, hi, hk, hn] at htx
  rw [hn, hO] at hgt
  have hi' := Lib.hid hi
  have hk' := Lib.hid hk
  have hb' := Lib.hid hb
  have ho' := Lib.hid ho
  have hx' := Lib.hid hx
  have b2 : (2 : Int) ≤ (cap : Int) := by omega
  have b3 : (3 : Int) ≤ (cap : Int) := by omega
  have n0 : ¬ cap = 0 := by omega
  have n2 : ¬ cap = 2 := by omega
  have n3 : ¬ cap = 3 := by omega
  have hgw := Lib.hid (show g < w.heap.size from World.block_lt_of_cell? w _ (hx.cell (k := 0) (by omega)))
  have hbd := fun w => run_bdL w i k n
  rw [hV.out]
  unfold sv at hbd
  clear hT hn hO hi hk hb ho hx
  have tk0 : True := trivial
  go_enter Try.func32, Try.ntmps32
  go_wp2_with (first
    | (go_at_call 45; refine (getText_any g (off + 3) 25 _ (b.drop 3) _ (by rw [List.length_drop, hb'.out]) (ho'.out.drop 3) (by omega) (by omega) (by omega) (by have := hx1.out.sub 3 25; rwa [List.take_of_length_le (by rw [List.length_drop, hb'.out]; omega)] at this)).mono ?_; rw [hgt.out]; rintro e w2 ⟨rfl, rfl⟩)
    | (clear tk0; refine wpList_alloc_slot rfl rfl ?_; intro g1 w1 hv1 hg1 hb1; have hB1 := Lib.hid hb1; have hx1 := Lib.hid (hx'.out.on hb1 (Nat.le_refl _)); clear hb1))
  have hx2 := hx1.out.drew1
  have hst := run_stL (s := ⟨i, k, n⟩) (w := w1.drew) (hv1.out.drew1.there (o := 0) (n := 3) (by rw [sc_length]; omega))
  unfold sv at hst
  have hx5 := hx2.oth (Oth.setCells (Oth.refl g1 w1.drew) 0 (sc ⟨i, k, n⟩)) (by have := hgw.out; omega)
  have tk1 : True := trivial
  go_region_held3 (fun w' => BAt w' (some ⟨g, off, none⟩) b) (first | exact hx2 | exact hx5) (first
    | (go_at_call 46; first
        | (clear tk1; refine (get_in hb'.out ho'.out (by assumption) 0 2 _ off (by simp) (by omega) (by omega)).mono ?_; rw [hi'.out]; rintro e w2 ⟨rfl, rfl⟩)
        | (refine (get_in hb'.out ho'.out (by assumption) 2 1 _ _ rfl (by omega) (by omega)).mono ?_; rw [hk'.out]; rintro e w2 ⟨rfl, rfl⟩)))
  go_wp2_with fail
  refine bodyPost_ret (slot_ret rfl rfl (hv1.out.drew1.over (m := sc ⟨i, k, n⟩) rfl)) rfl ⟨by rw [htx.out]; rfl, below_setCells hB1.out.drew hg1 0 _⟩
end Go.Proofs.Ytpogaognobgfhaa
