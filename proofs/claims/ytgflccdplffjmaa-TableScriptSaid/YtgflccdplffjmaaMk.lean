/-
  Files compared; what every program answers that is one.
-/
import Derived.Test.YtgflccdplffjmaaMe
import Derived.Test.YtgflccdplffjmaaMg
import Derived.Test.YtgflccdplffjmaaSi
namespace Go.Proofs.Ytgflccdplffjmaa
open Go.RowKit BigFrame

theorem eqG_of (x y : Value) : Op.equalIn 10000 40 x y = eqA 40 x y := rfl
theorem Try.heldFile : Try.prog.stoodInHeld 40 = false := by kernel_rfl
theorem Try.eqGuardFile : Try.prog.eqGuardType Try.prog.depth 40 = false := by kernel_rfl
/-- the same file -/
def sameF (s t : Plc) : Bool := (s.nd == t.nd) && ((s.off == t.off) && (s.fl == t.fl))
theorem sameF_refl (s : Plc) : sameF s s = true := by simp [sameF]
theorem run_eqG (s t : Plc) (w : World) : (eqA 40 (gv s) (gv t)).run Try.prog w = .ok (sameF s t) w := by
  have hf : Try.prog.underlying 40 = some (.struct (Try.prog.fieldsOf 40)) := by unfold Program.fieldsOf; rw [Try.underlying40]
  have h := run_equalIn_struct (P := Try.prog) w 9999 40 (gc s).toArray (gc t).toArray hf Try.heldFile
  unfold gv eqA
  rw [h]
  simp only [Program.fieldsOf, Try.underlying40]
  rw [eqFieldsW (a := .int .i64 s.nd) (b := .int .i64 t.nd) (r := s.nd == t.nd) (by decide) Try.underlying3 rfl rfl rfl (run_equalIn_int w 9998 _ .i64 .i64 _ _ Try.underlying3),
    eqFieldsW (a := .int .i64 s.off) (b := .int .i64 t.off) (r := s.off == t.off) (by decide) Try.underlying3 rfl rfl rfl (run_equalIn_int w 9998 _ .i64 .i64 _ _ Try.underlying3),
    eqFieldsW (a := .int .i64 s.fl) (b := .int .i64 t.fl) (r := s.fl == t.fl) (by decide) Try.underlying3 rfl rfl rfl (run_equalIn_int w 9998 _ .i64 .i64 _ _ Try.underlying3), eqFields_nil]
  unfold sameF
  cases (s.nd == t.nd) <;> cases (s.off == t.off) <;> cases (s.fl == t.fl) <;> rfl

theorem least_z16 : LeastP z16 0 := ⟨by omega, fun j h => by omega, fun _ => rfl⟩
/-- one that was opened -/
def l1 : List Plc := openL z16 0 7 3
theorem l1_one : ∀ k, (pl l1 (k + 1)) = p0 := fun k => by
  show pl (openL z16 0 7 3) (k + 1) = p0
  unfold openL
  rw [pl_set (by decide), if_neg (by omega)]
  exact pl_rep 16 _
theorem l1_list : ∀ p, p < 1 → zn (openN l1 16) p = 0 := fun p hp => by
  obtain rfl : p = 0 := by omega
  rfl
theorem get_c (a k : Nat) (K : Int) (L : List Plc) (s : Plc) (w : World) (h : TabAt w a L) (hK : K = (k : Int)) (hk : k < 16) (ho : (pl L k).on = true) (hs : pl L k = s) :
    Calls Try.prog 14 #[.pointer (some ⟨a, 0, none⟩), .int .i64 K] w (Tells (.tuple #[gv s, .int .i64 0]) w) := by
  subst hK hs; exact get_on a k L w h hk ho
theorem open_c (a q : Nat) (n f R : Int) (L L' : List Plc) (w : World) (h : TabAt w a L) (hq : LeastP L q) (hq16 : q < 16) (hR : R = (q : Int)) (hL : openL L q n f = L') :
    Calls Try.prog 8 #[.pointer (some ⟨a, 0, none⟩), .int .i64 n, .int .i64 f] w (GivesT (.tuple #[.int .i64 R, .int .i64 0]) a L' w) := by
  subst hR hL; exact open_some a q n f L w h hq hq16
theorem holds_is (a : Nat) (n : Int) (L : List Plc) (r : Bool) (w : World) (h : TabAt w a L) (hr : heldB L n 16 = r) :
    Calls Try.prog 19 #[.pointer (some ⟨a, 0, none⟩), .int .i64 n] w (Tells (.bool r) w) := by
  subst hr; exact holds_any a n L w h
/-- a file in a variable of the call's own, beside a table -/
structure FileAt (w : World) (g : Nat) (s : Plc) : Prop where
  row : Vw w 40 g (gc s)
theorem FileAt.on' {w w' : World} {g : Nat} {s : Plc} (h : FileAt w g s) (hb : Below w.heap.size w w') : FileAt w' g s := ⟨h.row.on' hb⟩
set_option maxRecDepth 100000 in
set_option maxHeartbeats 1000000 in
attribute [local go_sem ↓] ldG_of stG_of bdG_of eqG_of in
theorem awake_any (w : World) : Calls Try.prog 6 #[] w (Tells (.bool true) w) := by
  have hbg := fun w => run_bdG w 7 3
  have heq := fun w => run_eqG ⟨true, 7, 0, 3⟩ ⟨true, 7, 0, 3⟩ w
  have hgd := Try.eqGuardFile
  rw [sameF_refl] at heq
  unfold gv at heq hbg
  go_enter Try.func6, Try.ntmps6
  go_wp2_with (first
    | (go_at_call 7; refine (new_any _).mono ?_; rintro e w1 ⟨rfl, hT, hb⟩; have T1 := Lib.hid hT; have B1 := Lib.hid hb; clear hT hb)
    | (go_at_call 8; refine (open_c _ 0 7 3 0 z16 l1 _ T1.out least_z16 (by omega) rfl rfl).mono ?_; rintro e w2 ⟨rfl, hT, hb⟩; have T2 := Lib.hid hT; have B2 := Lib.hid (B1.out.trans (hb.below B1.out.size (Nat.le_refl _))); have tk0 : True := trivial; have tk2 : True := trivial; clear hT hb T1 B1)
    | (clear tk2; go_at_call 14; refine (get_c _ 0 0 l1 ⟨true, 7, 0, 3⟩ _ T2.out rfl (by omega) rfl rfl).mono ?_; unfold gv; rintro e w3 ⟨rfl, hb⟩; have T3 := Lib.hid (T2.out.on' hb); have B3 := Lib.hid (B2.out.trans (hb.mono B2.out.size)); clear hb T2 B2)
    | (clear tk0; refine wpList_alloc_file rfl rfl ?_; intro g1 w4 hv4 hg4 hb4; have hst := run_stG (s := ⟨true, 7, 0, 3⟩) (hv4.out.there (o := 0) (n := 3) (by simp [gc])); have hbs := below_setCells hb4 hg4 0 (gc ⟨true, 7, 0, 3⟩); have F4 := Lib.hid (FileAt.mk (hv4.out.over (m := gc ⟨true, 7, 0, 3⟩) rfl)); have T4 := Lib.hid (T3.out.on' hbs); have B4 := Lib.hid (B3.out.trans (hbs.mono B3.out.size)); unfold gv at hst; clear hb4 hbs hv4 T3 B3; have tk1 : True := trivial)
    | (go_at_call 14; refine (get_bad _ 1 l1 _ T4.out (by rw [show (1 : Int) = ((1 : Nat) : Int) from rfl, there_in (by omega), l1_one 0]; rfl)).mono ?_; unfold gv; rintro e w5 ⟨rfl, hb⟩; have T5 := Lib.hid (T4.out.on' hb); have B5 := Lib.hid (B4.out.trans (hb.mono B4.out.size)); have F5 := Lib.hid (F4.out.on' hb); clear hb T4 B4 F4)
    | (clear tk1; refine wpList_alloc_file rfl rfl ?_; intro g2 w6 hv6 hg6 hb6; have hst := run_stG (s := p0) (hv6.out.there (o := 0) (n := 3) (by simp [gc])); have hbs := below_setCells hb6 hg6 0 (gc p0); have F6 := Lib.hid (F5.out.on' hbs); have T6 := Lib.hid (T5.out.on' hbs); have B6 := Lib.hid (B5.out.trans (hbs.mono B5.out.size)); have hld := run_ldG F6.out.row.whole; unfold gv at hst hld; clear hb6 hbs hv6 T5 B5 F5)
    | (go_at_call 19; refine (holds_is _ 7 l1 true _ T6.out (held_yes (k := 0) (by omega) rfl rfl)).mono ?_; rintro e w7 ⟨rfl, hb⟩; have T7 := Lib.hid (T6.out.on' hb); have B7 := Lib.hid (B6.out.trans (hb.mono B6.out.size)); clear hb T6 B6)
    | (go_at_call 16; refine (list_any _ l1 _ T7.out).mono ?_; rintro e w8 ⟨v, rfl, ho, hb⟩; rw [show openC l1 16 = 1 from rfl] at ho; obtain ⟨ab, cb, rfl, hx, _⟩ := ho.slice; have O8 := Lib.hid hx; have B8 := Lib.hid (B7.out.trans (hb.mono B7.out.size)); clear ho hb hx T7 B7)
    | (go_at_call 17; refine (sameI_any _ _ _ _ 1 (zn (openN l1 16)) (fun _ => 0) _ (by omega) (O8.out.alloc _) (int_new _ 0 3) l1_list).mono ?_; rintro e w9 ⟨rfl, hb⟩; have B9 := Lib.hid (below_two (B8.out.alloc B8.out.size _) hb); clear hb))
  go_ret
  exact ⟨rfl, B9.out⟩
end Go.Proofs.Ytgflccdplffjmaa
