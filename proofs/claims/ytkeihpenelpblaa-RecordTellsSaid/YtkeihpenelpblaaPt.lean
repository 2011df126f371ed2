/-
  A text is spelled over bytes of a variable of the call's own.
-/
import Derived.Test.YtkeihpenelpblaaCu
import Derived.Test.YtkeihpenelpblaaPq
namespace Go.Proofs.Ytkeihpenelpblaa
open Go.RowKit BigFrame

/-- a text behind its length, in n bytes -/
def txt (n : Nat) (l : List Nat) : List Nat := l.length :: (l ++ zs (n - 1 - l.length))
theorem txt_length {n : Nat} {l : List Nat} (h : l.length + 1 ≤ n) : (txt n l).length = n := by
  unfold txt; rw [List.length_cons, List.length_append, zs_length]; omega
set_option maxHeartbeats 400000 in
theorem putText_t (t : TypeId) (g off n cap : Nat) (L : List Nat) (s : ByteArray) (w : World) (hrow : RowT w t g L) (hl : off + n ≤ L.length) (hs : (nb s).length + 1 ≤ n) (h2 : 2 ≤ n) (hn : n ≤ 250) (hc : n ≤ cap) :
    Calls Try.prog 20 #[.slice (some ⟨g, off, none⟩) n cap, .string s] w fun e w' => e = .returned (.tuple #[]) ∧ RowT w' t g (splice L off (txt n (nb s))) ∧ Oth g w w' := by
  obtain ⟨m, hm⟩ : ∃ m, (nb s).length = m := ⟨_, rfl⟩
  have hsz : s.size = m := by rw [← nb_length, hm]
  have c0 := hrow.cell (k := off) (by omega)
  have f0 := hrow.frozen off
  have hr1 := Lib.hid (hrow.set off m)
  have ho1 := Lib.hid ((Oth.refl g w).setCell (p := off) (.int .u8 ((m : Nat) : Int)))
  have hm' := Lib.hid hm
  have hlen := Lib.hid (show (L.set off m).length = L.length from List.length_set)
  have hcons := Lib.hid (splice_cons L off m (nb s) (by omega))
  have hspl := Lib.hid (splice_splice L (m :: nb s) (zs (n - 1 - m)) off (by rw [List.length_cons, hm]; omega))
  have hslen := Lib.hid (length_splice L off (m :: nb s) (by rw [List.length_cons, hm]; omega))
  have n1 : ¬ cap = 1 := by omega
  have p1 : (1 : Int) ≤ (n : Int) := by omega
  obtain ⟨r, hr⟩ : ∃ r, 1 + m = r := ⟨_, rfl⟩
  have e1 : 1 + (m : Int) = (r : Int) := by omega
  have p2 : (0 : Int) ≤ (r : Int) := by omega
  have p3 : (r : Int) ≤ (n : Int) := by omega
  have hr' := Lib.hid hr
  clear hrow hm
  by_cases hend : r = n
  · obtain rfl := hend
    clear hr p3
    have tk0 : True := trivial
    go_enter Try.func20, Try.ntmps20
    go_wp2_with (first
      | (clear tk0; refine wpList_copy_textT rfl (.tmp 11) (.tmp 12) rfl t g (off + 1) (r - 1) (cap - 1) s (L.set off m) rfl rfl hr1.out (by rw [hm'.out]; have := hr'.out; omega) (by rw [hm'.out, hlen.out]; have := hr'.out; omega) ?_; intro w2 hr2 ho2; rw [hm'.out])
      | (refine wpList_clear_0 rfl (.tmp 17) rfl _ _ rfl ?_))
    all_goals
      go_end0
      refine ⟨rfl, ?_, ho1.out.trans ho2.out⟩
      have h := hr2.out
      rw [hcons.out] at h
      have e : txt r (nb s) = m :: nb s := by unfold txt; rw [hm'.out, show r - 1 - m = 0 by have := hr'.out; omega, show zs 0 = [] from rfl, List.append_nil]
      rw [e]; exact h
  · have n2 : ¬ cap = r := by omega
    have hrn := Lib.hid (show 0 < n - r by omega)
    have hnr := Lib.hid (show n - r = n - 1 - m by omega)
    clear hr hend
    have tk0 : True := trivial
    go_enter Try.func20, Try.ntmps20
    go_wp2_with (first
      | (clear tk0; refine wpList_copy_textT rfl (.tmp 11) (.tmp 12) rfl t g (off + 1) (n - 1) (cap - 1) s (L.set off m) rfl rfl hr1.out (by rw [hm'.out]; have := hr'.out; omega) (by rw [hm'.out, hlen.out]; have := hr'.out; omega) ?_; intro w2 hr2 ho2; rw [hm'.out])
      | (refine wpList_clear_T rfl (.tmp 17) rfl t g (off + r) (n - r) _ _ rfl hr2.out hrn.out (by rw [hcons.out, hslen.out]; have := hrn.out; omega) ?_; intro w3 hr3 ho3))
    go_end0
    refine ⟨rfl, ?_, (ho1.out.trans ho2.out).trans ho3.out⟩
    have h := hr3.out
    rw [hcons.out, hnr.out, show off + r = off + (m :: nb s).length by rw [List.length_cons, hm'.out]; have := hr'.out; omega, hspl.out] at h
    have e : txt n (nb s) = m :: nb s ++ zs (n - 1 - m) := by unfold txt; rw [hm'.out]; rfl
    rw [e]; exact h
end Go.Proofs.Ytkeihpenelpblaa
