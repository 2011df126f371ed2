/-
  What an inode's bytes tell.
-/
import Derived.Test.YtfnhngnbaigccaaJg
import Derived.Test.YtfnhngnbaigccaaJl
import Derived.Test.YtfnhngnbaigccaaPg
import Derived.Deep.DeepCutAuto
namespace Go.Proofs.Ytfnhngnbaigccaa
open Go.RowKit BigFrame

theorem toldI_is (b : List Nat) : toldI b = [gt b 0 1, gt b 1 2, gt b 3 4, gt b 7 2, gt b 9 2, gt b 11 2, gt b 13 2, gt b 15 2, gt b 17 2, gt b 19 2, gt b 21 2] := by
  simp only [toldI, wsI, toldW, List.drop_drop, gt, List.drop_zero, Nat.reduceAdd]
theorem get_at {w : World} {g off : Nat} {b : List Nat} (hb : b.length = 23) (ho : Octs b) (hx : BAt w (some ⟨g, off, none⟩) b) (o n c O : Nat) (hO : O = off + o) (h : o + n ≤ 23) (hn : n ≤ 7) :
    Calls Try.prog 44 #[.slice (some ⟨g, O, none⟩) n c] w fun e w' => e = .returned (.int .i64 (gt b o n)) ∧ w = w' := by
  subst hO
  exact get_any _ c n ((b.drop o).take n) w (by rw [List.length_take, List.length_drop]; omega) ((ho.drop o).take n) hn (hx.sub o n)

theorem BAt.alloc1 {w : World} {a : Option Addr} {l : List Nat} (h : BAt w a l) (o : Obj) : BAt (w.alloc o) a l := h.on ((Below.refl _ _).alloc (Nat.le_refl _) _) (Nat.le_refl _)
theorem run_bdI (w : World) (a b c x y : Int) : (bdA 24 #[(0, .int .i64 a), (1, .int .i64 b), (2, .int .i64 c), (4, .int .i64 x), (5, .int .i64 y)]).run Try.prog w = .ok (.agg (iv [a, b, c, 0, 0, 0, 0, 0, 0, x, y]).toArray) w := by
  unfold bdA
  exact run_build w _ _ _ (by kernel_rfl)
theorem run_stNew (u : World) (l : List Int) (hl : l.length = 11) : (stA 24 (.pointer (some ⟨u.heap.size, 0, none⟩)) (.agg (iv l).toArray)).run Try.prog (u.alloc (.cells (iv (zz 11)).toArray 24)) = .ok () (u.alloc (.cells (iv l).toArray 24)) :=
  run_storeAt_new u 24 _ _ (by rw [Try.sizeIno]; simp [iv_length, hl]) (by simp [iv_length, hl, zz_length]) (iv_all l)

/-- the inode as it is told so far, in block G; the result's block; the bytes -/
def ToldAt (l : List Int) (G g1 g off : Nat) (b : List Nat) (w wx : World) : Prop :=
  Vi wx 24 G l ∧ Vi wx 24 g1 (zz 11) ∧ BAt wx (some ⟨g, off, none⟩) b ∧ Below w.heap.size w wx ∧ g1 < G ∧ w.heap.size ≤ G ∧ g < G
def ToldCut (b : List Nat) (g1 g off : Nat) (w : World) (v : Value) (wx : World) : Prop := ∃ G, v = .pointer (some ⟨G, 0, none⟩) ∧ ToldAt [gt b 0 1, gt b 1 2, gt b 3 4, 0, 0, 0, 0, 0, 0, gt b 19 2, gt b 21 2] G g1 g off b w wx
def tl (b : List Nat) : Nat → List Int
  | 0 => [gt b 0 1, gt b 1 2, gt b 3 4, 0, 0, 0, 0, 0, 0, gt b 19 2, gt b 21 2]
  | k + 1 => (tl b k).set (3 + k) (gt b (7 + 2 * k) 2)
theorem tl_length (b : List Nat) : ∀ k, (tl b k).length = 11
  | 0 => rfl
  | k + 1 => by rw [tl, List.length_set, tl_length b k]
theorem tl_six (b : List Nat) : tl b 6 = toldI b := by rw [toldI_is]; rfl
def ToRel (b : List Nat) (G g1 g off : Nat) (w : World) (i : Value) (wx : World) : Prop := ∃ k : Nat, k ≤ 6 ∧ i = .int .i64 k ∧ ToldAt (tl b k) G g1 g off b w wx
theorem ToldAt.put {l : List Int} {G g1 g off : Nat} {b : List Nat} {w wx : World} (h : ToldAt l G g1 g off b w wx) (k : Nat) (x : Int) : ToldAt (l.set k x) G g1 g off b w (wx.setCell ⟨G, k, none⟩ (.int .i64 x)) := by
  obtain ⟨h1, h2, h3, h4, h5, h6, h7⟩ := h
  have ho := (Oth.refl G wx).setCell (p := k) (.int .i64 x)
  exact ⟨h1.set k x, h2.oth ho (by omega), h3.oth ho (by omega), h4.setCell (p := ⟨G, k, none⟩) h6 _, h5, h6, h7⟩
theorem ino_ret {fn : Func} {p : Tmp} (h : fn.results = #[.cell p 24]) {tmps : Array Value} {w : World} {a : Nat} {l : List Int} (hp : tmps.getD p undef = .pointer (some ⟨a, 0, none⟩)) (hV : Vi w 24 a l) (hl : l.length = 11) :
    (results fn tmps).run Try.prog w = .ok (av l) w :=
  results_cell_row h tmps w a _ _ _ _ hp hV Try.underlying24 rfl (by rw [Try.sizeIno]; simp [iv_length, hl])

attribute [local go_sem ↓] ldI_of stI_of bdI_of
set_option maxHeartbeats 1000000 in
theorem told_any (g off cap : Nat) (b : List Nat) (w : World) (hb : b.length = 23) (ho : Octs b) (hc : 23 ≤ cap) (hx : BAt w (some ⟨g, off, none⟩) b) :
    Calls Try.prog 29 #[.slice (some ⟨g, off, none⟩) 23 cap] w (Tells (av (toldI b)) w) := by
  have hb' := Lib.hid hb
  have ho' := Lib.hid ho
  have hx' := Lib.hid hx
  have b1 : (1 : Int) ≤ (cap : Int) := by omega
  have b3 : (3 : Int) ≤ (cap : Int) := by omega
  have b7 : (7 : Int) ≤ (cap : Int) := by omega
  have b21 : (21 : Int) ≤ (cap : Int) := by omega
  have b23 : (23 : Int) ≤ (cap : Int) := by omega
  have n1 : ¬ cap = 1 := by omega
  have n3 : ¬ cap = 3 := by omega
  have n19 : ¬ cap = 19 := by omega
  have n21 : ¬ cap = 21 := by omega
  have hbd := run_bdI
  obtain ⟨T, hTe⟩ : ∃ T, toldI b = T := ⟨_, rfl⟩
  have hTT := Lib.hid hTe
  rw [hTe]
  clear hb ho hx hTe
  go_enter Try.func29, Try.ntmps29
  go_upto_region 1 with (refine wpList_alloc_ino rfl rfl ?_; intro g1 w1 hv1 hg1 hb1; have hB1 := Lib.hid hb1; have hx1 := Lib.hid (hx'.out.on hb1 (Nat.le_refl _)); clear hb1)
  have hgw := Lib.hid (show g < w.heap.size from by
    obtain ⟨b', o', e⟩ := hx'.out.addr (by rw [hb'.out]; omega)
    have := hx'.out.cell (k := 0) (by rw [hb'.out]; omega)
    exact World.block_lt_of_cell? w _ this)
  simp only [Act.put, List.setIfInBounds_toArray, List.set_cons_zero, List.set_cons_succ]
  go_cut [3] (fun v wx => ToldCut b g1 g off w v wx)
  case first =>
    have hx2 := hx1.out.drew1
    have tk0 : True := trivial
    have hst := fun (a b c x y : Int) => (show (stA 24 (.pointer (some ⟨w1.heap.size, 0, none⟩)) (.agg (iv [a, b, c, 0, 0, 0, 0, 0, 0, x, y]).toArray)).run Try.prog (w1.alloc (.cells #[.int .i64 0, .int .i64 0, .int .i64 0, .int .i64 0, .int .i64 0, .int .i64 0, .int .i64 0, .int .i64 0, .int .i64 0, .int .i64 0, .int .i64 0] 24)).drew
      = .ok () (w1.alloc (.cells (iv [a, b, c, 0, 0, 0, 0, 0, 0, x, y]).toArray 24)).drew from run_stNew w1.drew [a, b, c, 0, 0, 0, 0, 0, 0, x, y] rfl)
    go_region_held3 (fun w' => BAt w' (some ⟨g, off, none⟩) b) (first | exact hx2 | exact BAt.alloc1 hx2 _) (first
      | (go_at_call 44; first
          | (clear tk0; refine (get_at hb'.out ho'.out (by assumption) 0 1 _ off (by simp) (by omega) (by omega)).mono ?_; rintro e w2 ⟨rfl, rfl⟩)
          | (refine (get_at hb'.out ho'.out (by assumption) _ _ _ _ rfl (by omega) (by omega)).mono ?_; rintro e w2 ⟨rfl, rfl⟩)))
    all_goals
      go_wp2_with fail
      go_meet
      have hbb := ((Below.refl w1.heap.size w1).alloc (Nat.le_refl _) (.cells (iv [gt b 0 1, gt b 1 2, gt b 3 4, 0, 0, 0, 0, 0, 0, gt b 19 2, gt b 21 2]).toArray 24)).drew
      exact ⟨w1.heap.size, rfl, Vi.alloc w1 _ _, hv1.out.on' hbb, hx1.out.on hbb (Nat.le_refl _), below_two hB1.out hbb, hv1.out.lt, hB1.out.size, Nat.lt_of_lt_of_le hgw.out hB1.out.size⟩
  case rest =>
    obtain ⟨G, rfl, hT0⟩ := hcut
    have hT := Lib.hid hT0
    clear hT0 hbd
    go_wp2_with fail
    go_loopw [21] (fun i wr => ToRel b G g1 g off w i wr) (fun i _ => 6 - (intOf i).toNat)
    case atStart => exact ⟨0, by omega, rfl, hT.out⟩
    case round =>
      obtain ⟨k, hk, rfl, hR⟩ := hrel
      have R := Lib.hid hR
      have hl := Lib.hid (tl_length b k)
      by_cases hlt : k < 6
      · have c1 := hR.1.cell (k := 3 + k) (by rw [hl.out]; omega)
        have f1 := hR.1.frozen (3 + k)
        have hput := Lib.hid (hR.put (3 + k) (gt b (7 + 2 * k) 2))
        clear hR
        go_wp2_with (first
          | (go_at_call 39; refine (direct_any g off cap k _ hlt hc).mono ?_; rintro e w5 ⟨⟨cp, hcp, rfl⟩, rfl⟩)
          | (go_at_call 44; refine (get_at hb'.out ho'.out R.out.2.2.1 (7 + 2 * k) 2 _ _ rfl (by omega) (by omega)).mono ?_; rintro e w2 ⟨rfl, rfl⟩))
        exact ⟨⟨k + 1, by omega, by go_num, hput.out⟩, by simp [intOf]; omega⟩
      · obtain rfl : k = 6 := by omega
        rw [tl_six, hTT.out] at R hl
        have hld := run_ldI R.out.1.whole hl.out
        have hst := run_stI hl.out (R.out.2.1.there (o := 0) (n := 11) (by rw [zz_length]; omega))
        unfold av at hld hst
        clear hR
        go_wp2_with fail
        refine bodyPost_ret (ino_ret rfl rfl (R.out.2.1.over (m := T) (by rw [hl.out, zz_length])) hl.out) rfl ⟨rfl, below_setCells R.out.2.2.2.1 hg1 0 _⟩
end Go.Proofs.Ytfnhngnbaigccaa
