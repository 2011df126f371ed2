/-
  A copy that is lent, with spare room that is marked.
-/
import Derived.Test.YtcmomnfefaolaaaLr
namespace Go.Proofs.Ytcmomnfefaolaaa
open Go.RowKit BigFrame

def spare (l : List Nat) (k : Nat) : List Nat := l ++ (List.replicate k 119 ++ zs (3 - k))
theorem spare_length {l : List Nat} {k : Nat} (h : k ≤ 3) : (spare l k).length = l.length + 3 := by simp [spare, zs]; omega
theorem spare_set {l : List Nat} {k : Nat} (h : k < 3) : (spare l k).set (l.length + k) 119 = spare l (k + 1) := by
  unfold spare
  rw [List.set_append, if_neg (by omega), Nat.add_sub_cancel_left]
  congr 1
  match k, h with
  | 0, _ => rfl
  | 1, _ => rfl
  | 2, _ => rfl
def marked (l : List Nat) : List Nat := l ++ [119, 119, 119]
theorem spare_three (l : List Nat) : spare l 3 = marked l := rfl
theorem spare_none (l : List Nat) : splice (zs (l.length + 3)) 0 l = spare l 0 := by
  unfold splice spare zs
  simp

def LendRel (g : Nat) (l : List Nat) (w : World) (i : Value) (wr : World) : Prop :=
  ∃ k : Nat, k ≤ 3 ∧ i = .int .i64 k ∧ Row wr g (spare l k) ∧ Below w.heap.size w wr
def LendPost (n : Nat) (l : List Nat) (w : World) (e : Ending) (w' : World) : Prop :=
  ∃ g, e = .returned (.slice (some ⟨g, 0, none⟩) n (n + 3)) ∧ w.heap.size ≤ g ∧ Row w' g (marked l) ∧ Below w.heap.size w w'

set_option maxHeartbeats 400000 in
theorem lend_any (a : Option Addr) (cap n : Nat) (l : List Nat) (w : World) (hn : l.length = n) (hl : n ≤ 100000) (hx : BAt w a l) (hnil : a = none → cap = 0) :
    Calls Try.prog 8 #[.slice a n cap] w (LendPost n l w) := by
  have hx' := Lib.hid hx
  have hn' := Lib.hid hn
  have hnil' := Lib.hid hnil
  clear hx hn hnil
  go_enter Try.func8, Try.ntmps8
  go_wp2_with (at_make; refine wpList_make_cap_bytes rfl _ _ rfl 0 (n + 3) _ rfl rfl (by omega) (by omega) (by omega) ?_)
  intro g w1 hr hg hb
  have hb' := Lib.hid hb
  clear hb
  go_wp2_with (at_builtin; refine wpList_append_room rfl (.tmp 10) (.tmp 11) rfl g 0 (n + 3) (zs (n + 3)) rfl hr.out (zs_length _) (by omega) a n cap l rfl hn'.out (hx'.out.on hb'.out (Nat.le_refl _)) hnil'.out (by omega) ?_)
  intro w2 hr2 hb2
  have hr2' := Lib.hid (show Row w2 g (spare l 0) by rw [← spare_none, hn'.out]; exact hr2.out)
  have hb2' := Lib.hid (hb'.out.trans (hb2 _ hg))
  clear hr2 hb2 hr
  go_wp2_with fail
  rw [show n + 3 - n = 3 by omega]
  go_loopw [5] (fun i wr => LendRel g l w i wr) (fun i _ => 3 - (intOf i).toNat)
  case atStart => exact ⟨0, by omega, rfl, hr2'.out, hb2'.out⟩
  case round =>
    obtain ⟨k, hk, rfl, hR, hB⟩ := hrel
    by_cases hlt : k < 3
    · have c1 := hR.cell (k := n + k) (by rw [spare_length hk, hn'.out]; omega)
      have c2 := hR.frozen (n + k)
      have hend := Lib.hid (show LendRel g l w (.int .i64 ((k : Int) + 1)) (wr.setCell ⟨g, n + k, none⟩ (.int .u8 119)) from ⟨k + 1, by omega, by go_num, by
        have h1 := hR.set (n + k) 119
        rw [← hn'.out, spare_set hlt] at h1
        rw [← hn'.out]
        exact h1, hB.setCell (p := ⟨g, n + k, none⟩) hg _⟩)
      clear hR hB
      go_wp2_with fail
      exact ⟨hend.out, by simp [intOf]; omega⟩
    · obtain rfl : k = 3 := by omega
      have hR' := Lib.hid hR
      have hB' := Lib.hid hB
      clear hR hB
      go_wp2_with fail
      go_ret
      exact ⟨g, rfl, hg, hR'.out, hB'.out⟩

theorem marked_length (l : List Nat) : (marked l).length = l.length + 3 := by simp [marked]
theorem marked_at (l : List Nat) {k : Nat} (h : k < 3) : bz (marked l) (l.length + k) = 119 := by
  unfold marked
  rw [bz_append_right (by omega), Nat.add_sub_cancel_left]
  match k, h with
  | 0, _ => rfl
  | 1, _ => rfl
  | 2, _ => rfl
theorem Row.bat_front {w : World} {g : Nat} {l m : List Nat} (h : Row w g (l ++ m)) : BAt w (some ⟨g, 0, none⟩) l := by
  have := h.bat.sub 0 l.length
  rwa [List.drop_zero, List.take_append_of_le_length (Nat.le_refl _), List.take_of_length_le (Nat.le_refl _)] at this

end Go.Proofs.Ytcmomnfefaolaaa
