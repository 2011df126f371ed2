/-
  What every program answers; the calls at any strings, each told by what is reckoned of it.
-/
import Derived.Test.YtkocjkndkkhogaaDoorKg
import Derived.Test.YtkocjkndkkhogaaDoorTs
namespace Go.Proofs.YtkocjkndkkhogaaDoor
open Go.RowKit BigFrame

/-- it answers so, and below nothing has turned -/
def Tells (v : Value) (w : World) (e : Ending) (w' : World) : Prop := e = .returned v ∧ Below w.heap.size w w'
/-- a slice and a code, its facts at hand -/
def At2 (L : List (List Nat)) (c : Int) (w : World) (e : Ending) (w' : World) : Prop :=
  ∃ a cap, e = .returned (.tuple #[.slice a L.length cap, .int .i64 c]) ∧ Hid (OwnT w' w.heap.size (.slice a L.length cap) L) ∧ Hid (TAt w' a L) ∧ Hid (L.length ≤ cap) ∧ Hid (Below w.heap.size w w')
theorem Gives2.at {L : List (List Nat)} {c : Int} {w w' : World} {e : Ending} (h : Gives2 L c w e w') : At2 L c w e w' := by
  obtain ⟨v, rfl, h1, h2⟩ := h
  obtain ⟨a, cap, rfl, h3, _, h4, _⟩ := h1.slice
  exact ⟨a, cap, rfl, h1, h3, h4, h2⟩
def At3 (L : List (List Nat)) (r : Bool) (c : Int) (w : World) (e : Ending) (w' : World) : Prop :=
  ∃ a cap, e = .returned (.tuple #[.slice a L.length cap, .bool r, .int .i64 c]) ∧ Hid (OwnT w' w.heap.size (.slice a L.length cap) L) ∧ Hid (TAt w' a L) ∧ Hid (L.length ≤ cap) ∧ Hid (Below w.heap.size w w')
theorem Gives3.at {L : List (List Nat)} {r : Bool} {c : Int} {w w' : World} {e : Ending} (h : Gives3 L r c w e w') : At3 L r c w e w' := by
  obtain ⟨v, rfl, h1, h2⟩ := h
  obtain ⟨a, cap, rfl, h3, _, h4, _⟩ := h1.slice
  exact ⟨a, cap, rfl, h1, h3, h4, h2⟩
theorem pSplit_is (s : ByteArray) (w : World) (L : List (List Nat)) (c : Int) (hc : codeP (nb s) = c) (hL : psOf c (nb s) = L) :
    Calls Tryd.prog 9 #[.string s] w (At2 L c w) := by
  subst hc; subst hL
  exact (pSplit_any s w).mono fun _ _ h => h.at
theorem pTarget_is (s : ByteArray) (w : World) (L : List (List Nat)) (r : Bool) (c : Int) (hc : codeS 100 (nb s) = c) (hr : rootT (nb s) = r) (hL : psOf c (nb s) = L) :
    Calls Tryd.prog 15 #[.string s] w (At3 L r c w) := by
  subst hc; subst hr; subst hL
  exact (pTarget_any s w).mono fun _ _ h => h.at
theorem pClean_is (s x : ByteArray) (w : World) (c : Int) (hc : codeP (nb s) = c) (hx : strOf (cleanL (nb s)) = x) :
    Calls Tryd.prog 11 #[.string s] w (Tells (.tuple #[.string x, .int .i64 c]) w) := by
  subst hc; subst hx
  exact pClean_any s w
theorem pLast_is (s x y : ByteArray) (w : World) (c : Int) (hc : codeL (nb s) = c) (hx : strOf (headL (nb s)) = x) (hy : strOf (lastL (nb s)) = y) :
    Calls Tryd.prog 13 #[.string s] w (Tells (.tuple #[.string x, .string y, .int .i64 c]) w) := by
  subst hc; subst hx; subst hy
  exact pLast_any s w
theorem pJoin_is (a : Option Addr) (n c : Nat) (L : List (List Nat)) (x : ByteArray) (w : World) (hn : n = L.length) (hc : n ≤ c) (hx : TAt w a L) (hz : sizeL L ≤ 1000000) (he : strOf (joinL L) = x) :
    Calls Tryd.prog 19 #[.slice a n c] w (Tells (.string x) w) := by
  subst he
  exact pJoin_any a n c L w hn hc hx hz
theorem text_two (w : World) (p q : List Nat) : TAt (w.alloc (.cells #[.string (strOf p), .string (strOf q)] 9)) (some ⟨w.heap.size, 0, none⟩) [p, q] :=
  .inr ⟨w.heap.size, 0, rfl, fun k hk => by
    have hk2 : k < 2 := hk
    rw [cell_of_row _ w.heap.size _ _ _ _ (heap_alloc_new w _)]
    match k, hk2 with
    | 0, _ => rfl
    | 1, _ => rfl⟩

set_option maxRecDepth 100000 in
set_option maxHeartbeats 1000000 in
theorem pAwake_any (w : World) : Calls Tryd.prog 8 #[] w (Tells (.bool true) w) := by
  have tk1 : True := trivial
  go_enter Tryd.func8, Tryd.ntmps8
  go_wp2_with (first
    | (go_at_call 9; refine (pSplit_is ⟨#[47, 47, 97, 47, 46, 47, 98, 47]⟩ _ [[97], [98]] 0 (by kernel_rfl) (by kernel_rfl)).mono ?_; rintro e w1 ⟨a1, c1, rfl, o1, t1, l1, b1⟩; clear l1)
    | (go_at_call 11; refine (pClean_is ⟨#[47, 97, 47, 46, 46, 47, 98, 47, 46, 47, 99]⟩ ⟨#[47, 98, 47, 99]⟩ _ 0 (by kernel_rfl) (by kernel_rfl)).mono ?_; rintro e w2 ⟨rfl, hb⟩; have t2 := Lib.hid (t1.out.on hb (Nat.le_refl _)); have b2 := Lib.hid (b1.out.trans (hb.mono b1.out.size)); clear hb)
    | (go_at_call 13; clear tk1; refine (pLast_is ⟨#[47, 97, 47, 98]⟩ ⟨#[47, 97]⟩ ⟨#[98]⟩ _ 0 (by kernel_rfl) (by kernel_rfl) (by kernel_rfl)).mono ?_; rintro e w3 ⟨rfl, hb⟩; have t3 := Lib.hid (t2.out.on hb (Nat.le_refl _)); have b3 := Lib.hid (b2.out.trans (hb.mono b2.out.size)); clear hb)
    | (go_at_call 13; refine (pLast_is ⟨#[47]⟩ ⟨#[]⟩ ⟨#[]⟩ _ 2 (by kernel_rfl) (by kernel_rfl) (by kernel_rfl)).mono ?_; rintro e w4 ⟨rfl, hb⟩; have t4 := Lib.hid (t3.out.on hb (Nat.le_refl _)); have b4 := Lib.hid (b3.out.trans (hb.mono b3.out.size)); clear hb)
    | (go_at_call 15; refine (pTarget_is ⟨#[46, 46, 47, 120]⟩ _ [[46, 46], [120]] false 0 (by kernel_rfl) (by kernel_rfl) (by kernel_rfl)).mono ?_; rintro e w5 ⟨a5, c5, rfl, o5, t5', l5, hb⟩; have t5 := Lib.hid (t4.out.on hb.out (Nat.le_refl _)); have b5 := Lib.hid (b4.out.trans (hb.out.mono b4.out.size)); clear hb l5 o5 t5'; have t6 := Lib.hid (t5.out.on ((Below.refl _ _).alloc (Nat.le_refl _) (.cells #[.string ⟨#[97]⟩, .string ⟨#[98]⟩] 9)) (Nat.le_refl _)); have b6 := Lib.hid (b5.out.alloc b5.out.size (.cells #[.string ⟨#[97]⟩, .string ⟨#[98]⟩] 9)))
    | (go_at_call 17; refine (sameT_any a1 (some ⟨w5.heap.size, 0, none⟩) c1 2 2 [[97], [98]] _ rfl (by omega) t6.out (text_two w5 [97] [98])).mono ?_; rintro e w6 ⟨rfl, hb⟩; have b7 := Lib.hid (b6.out.trans (hb.mono b6.out.size)); have b8 := Lib.hid (b7.out.alloc b7.out.size (.cells #[.string ⟨#[97]⟩] 9)); clear hb)
    | (go_at_call 19; refine (pJoin_is (some ⟨w6.heap.size, 0, none⟩) 1 1 [[97]] ⟨#[47, 97]⟩ _ rfl (by omega) (text_new w6 [97]) (by decide) (by kernel_rfl)).mono ?_; rintro e w7 ⟨rfl, hb⟩; have b9 := Lib.hid (b8.out.trans (hb.mono b8.out.size)); clear hb))
  go_ret
  exact ⟨rfl, b9.out⟩
end Go.Proofs.YtkocjkndkkhogaaDoor
