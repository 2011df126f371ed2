/-
  What the laws' own numbers gives: floats by their bits.
-/
import Derived.Test.YtdnemlanahlnpaaDoorLists
namespace Go.Proofs.YtdnemlanahlnpaaDoor
open Go.RowKit Fl

/-- the bits, one by one -/
def bitsOf (zs : List Int) : List Nat := zs.map Int.toNat
theorem bitsOf_length (zs : List Int) : (bitsOf zs).length = zs.length := by simp [bitsOf]
/-- the first k, as cells -/
def numsUpto (zs : List Int) (k : Nat) : List Value := ((bitsOf zs).take k).map (Value.float .f64)
theorem bitsOf_take (zs : List Int) (k : Nat) (h : k < zs.length) : numsUpto zs (k + 1) = numsUpto zs k ++ [.float .f64 (zi zs k).toNat] := by
  unfold numsUpto
  rw [List.take_succ_eq_append_getElem (by rw [bitsOf_length]; exact h)]
  simp [bitsOf, zi, List.getD, List.getElem?_eq_getElem h]
theorem bitsOf_fits {zs : List Int} (h : ∀ n ∈ zs, (Lit.int .u64 n).wf = true) : ∀ x ∈ bitsOf zs, Fits x := by
  intro x hx
  obtain ⟨n, hn, rfl⟩ := List.mem_map.1 hx
  obtain ⟨k, rfl, hk⟩ := u64_nat (h n hn)
  simpa using hk

/-- what holds ahead of each round -/
def NumRel (zs : List Int) (w : World) (v i : Value) (wr : World) : Prop :=
  ∃ k : Nat, k ≤ zs.length ∧ i = .int .i64 k ∧ wr.ownsRow w.heap.size 27 1 v k (numsUpto zs k) ∧ Below w.heap.size w wr
def NumPost (zs : List Int) (w : World) (e : Ending) (w' : World) : Prop :=
  ∃ v, e = .returned v ∧ w'.ownsRow w.heap.size 27 1 v zs.length ((bitsOf zs).map (Value.float .f64)) ∧ Below w.heap.size w w'

set_option maxHeartbeats 400000 in
theorem numbers_some (b off cap : Nat) (zs : List Int) (w : World) (hl : zs.length ≤ 1000) (h0 : 0 < zs.length) (hc : zs.length ≤ cap) (hb : b < w.heap.size)
    (hcell : ∀ j, j < zs.length → w.cell? ⟨b, off + j, none⟩ = some (.int .u64 (zi zs j))) :
    Calls Tryd.prog 5 #[.slice (some ⟨b, off, none⟩) zs.length cap] w (NumPost zs w) := by
  obtain ⟨i0, hi, hz0, hz1, hz2⟩ := info_parts Tryd.infoF
  have hf := frombits_run
  have hcell' := Lib.hid hcell
  clear hcell
  go_enter Tryd.func5, Tryd.ntmps5
  go_wp2_with fail
  go_loopw [3, 4] (fun v i wr => NumRel zs w v i wr) (fun _ i _ => zs.length - (intOf i).toNat)
  case atStart => exact ⟨0, by omega, rfl, World.ownsRow_nil _ _ _ _, Below.refl _ _⟩
  case round =>
    obtain ⟨k, hk, rfl, hown, hbel⟩ := hrel
    by_cases hlt : k < zs.length
    · have hck : wr.cell? ⟨b, off + k, none⟩ = some (.int .u64 (zi zs k)) := by rw [hbel.cell (p := ⟨b, off + k, none⟩) hb]; exact hcell'.out k hlt
      have hbel' := Lib.hid hbel
      have ht := Lib.hid (bitsOf_take zs k hlt)
      have hsz := hbel.size
      clear hbel
      go_wp2_with (at_builtin; refine wpList_append_own _ rfl _ _ 25 rfl w.heap.size 27 i0 (.float .f64 0) 1 8 Tryd.underlying25 hi hz0 hz1 hz2 rfl (by decide) _ _ _ rfl (hown.alloc _) ⟨wr.heap.size, 0, none⟩ 1 1 [.float .f64 (zi zs k).toNat] rfl rfl ?c1 ?c2 ?c3 ?c4 ?c5 ?_)
      case c1 => exact one_new _ _ _
      case c2 => intro u hu; simp at hu; subst hu; rfl
      case c3 => unfold maxLen; omega
      case c4 => omega
      case c5 => simp; omega
      intro v' w1 hown1 hgr _
      have hb1 := Lib.hid (app_below hbel'.out hgr (own_ge hown))
      have ho1 := Lib.hid hown1
      clear hgr hown1 hown
      go_wp2_with fail
      exact ⟨⟨k + 1, by omega, by go_num, by rw [ht.out]; exact ho1.out, hb1.out⟩, by simp [intOf]; omega⟩
    · have hk' : k = zs.length := by omega
      subst hk'
      have hown' := Lib.hid hown
      have hbel' := Lib.hid hbel
      clear hown hbel
      go_wp2_with fail
      go_ret
      exact ⟨_, rfl, by have h := hown'.out; unfold numsUpto at h; rw [List.take_of_length_le (by rw [bitsOf_length]; omega)] at h; exact h, hbel'.out⟩

theorem numbers_none (a : Option Addr) (cap : Nat) (w : World) :
    Calls Tryd.prog 5 #[.slice a 0 cap] w (NumPost [] w) := by
  go_enter Tryd.func5, Tryd.ntmps5
  go_wp2_with fail
  refine wp_loop_rounds 1 ?_
  rw [rounds_succ]
  go_wp2_with fail
  go_ret
  exact ⟨_, rfl, World.ownsRow_nil _ _ _ _, Below.refl _ _⟩

theorem numbers_any (v : Value) (zs : List Int) (w : World) (hv : ISlice .u64 w v zs) (hl : zs.length ≤ 1000) :
    Calls Tryd.prog 5 #[v] w (NumPost zs w) := by
  rcases hv with ⟨a, cap, rfl, rfl⟩ | ⟨h0, b, off, cap, rfl, hc, hm, hb, hcell, hw⟩
  · exact numbers_none a cap w
  · exact numbers_some b off cap zs w hl h0 hc hb hcell
end Go.Proofs.YtdnemlanahlnpaaDoor
