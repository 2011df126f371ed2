/-
  Sectors.
-/
import Derived.Test.YtcmomnfefaolaaaRlb
import Derived.Test.YtcmomnfefaolaaaOz
import Derived.Deep.LoopGhost
namespace Go.Proofs.Ytcmomnfefaolaaa
open Go.RowKit BigFrame
set_option maxRecDepth 100000
attribute [local go_sem ↓] ldO_of stO_of
theorem srt_le (l : List Nat) : (srt l).Pairwise (· ≤ ·) := by
  unfold srt
  have h := List.pairwise_mergeSort (le := fun (x y : Nat) => decide (x ≤ y)) (fun a b c h1 h2 => by simp at *; omega) (fun a b => by simp; omega) l
  exact h.imp fun h => by simpa using h
/-- the sectors of those that may be -/
def msec (xs : List Ob) : List Nat := (xs.filter mayO).map fun x => x.s.toNat
theorem msec_snoc_yes {xs : List Ob} {x : Ob} (h : mayO x = true) : msec (xs ++ [x]) = msec xs ++ [x.s.toNat] := by unfold msec; rw [List.filter_append, List.map_append]; simp [h]
theorem msec_snoc_no {xs : List Ob} {x : Ob} (h : mayO x = false) : msec (xs ++ [x]) = msec xs := by unfold msec; rw [List.filter_append, List.map_append]; simp [h]
theorem msec_len (xs : List Ob) : (msec xs).length ≤ xs.length := by unfold msec; rw [List.length_map]; exact List.length_filter_le _ _
theorem uniq_same {l Z Y : List Nat} (h : Uniq l Z) (k : Uniq l Y) : Z = Y := lt_uniq h.lt k.lt fun z => (h.mem z).trans (k.mem z).symm
/-- what Sectors tells -/
def GivesZ (l : List Nat) (w : World) (e : Ending) (w' : World) : Prop := ∃ v Z, e = .returned v ∧ OwnZ w' w.heap.size v Z ∧ Uniq l Z ∧ Below w.heap.size w w'
set_option maxHeartbeats 4000000 in
theorem sectors_c (os : Value) (xs : List Ob) (w : World) (ho : SlO w os xs) (hn : xs.length ≤ 100000) (hb : ∀ x ∈ xs, x.b.length ≤ 100000) :
    Calls Try.prog 10 #[os] w (GivesZ (msec xs) w) := by
  obtain ⟨a, cap, rfl, hc, hX, hnil⟩ := ho
  obtain ⟨n, hl⟩ : ∃ n, xs.length = n := ⟨_, rfl⟩
  rw [hl] at hc hn ⊢
  have hX' := Lib.hid hX
  have hl' := Lib.hid hl
  have hb' := Lib.hid hb
  clear hl hX hb hnil
  go_enter Try.func10, Try.ntmps10
  go_wp2_with fail
  go_loopg [3, 5, 8] n (fun q v3 v5 v8 wr => ∃ k : Nat, k + q = n ∧ v8 = .int .i64 (k : Int) ∧ OwnZ wr w.heap.size v3 (msec (xs.take k)) ∧ Below w.heap.size w wr)
  case atStart => exact ⟨0, by omega, rfl, OwnZ.nil _ _, Below.refl _ _⟩
  case round =>
    obtain ⟨k, hkg, rfl, hrow, hbel⟩ := hrel
    have hR := Lib.hid hrow
    have hB := Lib.hid hbel
    clear hrow hbel
    by_cases hlt : k < n
    · obtain ⟨q, rfl⟩ : ∃ q, gk = q + 1 := ⟨gk - 1, by omega⟩
      obtain ⟨b, off, u, had, hobj⟩ := (hX'.out.on hB.out).at (k := k) (by rw [hl'.out]; exact hlt)
      subst had
      have hlen := hb'.out _ (ob_mem (L := xs) (k := k) (by rw [hl'.out]; exact hlt))
      have htake := ob_take (L := xs) (k := k) (by rw [hl'.out]; exact hlt)
      obtain ⟨x, hx⟩ : ∃ x, ob xs k = x := ⟨_, rfl⟩
      rw [hx] at hobj hlen htake
      have hO := Lib.hid hobj
      have hT := Lib.hid htake
      have hld := run_ldO hobj.1
      clear hobj htake hx
      have hu1 := hO.out.2.one
      have hm0 := Lib.hid (fun w' (hb : Below wr.heap.size wr w') => may_c x u w' (hO.out.2.on hb) hlen)
      obtain ⟨mx, hmx⟩ : ∃ m, mayO x = m := ⟨_, rfl⟩
      rw [hmx] at hm0
      have hM := Lib.hid hmx
      clear hmx
      have hlz := Lib.hid (Nat.le_trans (msec_len (xs.take k)) (by rw [List.length_take]; exact Nat.min_le_left _ _))
      unfold ov oc at hld hm0
      obtain ⟨xs0, xp, xb⟩ := x
      simp only at hld hlen hm0
      have A4 : Hid (∀ g3 w3, Vw w3 37 g3 (oc o0 (.slice none 0 0)) → wr.heap.size ≤ g3 → Below wr.heap.size wr w3 → (stA 37 (.pointer (some ⟨g3, 0, none⟩)) (.agg #[.int .i64 xs0, .int .i64 xp, u])).run Try.prog w3 = .ok () (w3.setCells g3 0 [.int .i64 xs0, .int .i64 xp, u]) ∧ Vw (w3.setCells g3 0 [.int .i64 xs0, .int .i64 xp, u]) 37 g3 [.int .i64 xs0, .int .i64 xp, u] ∧ Below wr.heap.size wr (w3.setCells g3 0 [.int .i64 xs0, .int .i64 xp, u])) :=
        Lib.hid (fun g3 w3 hv hg hb => ⟨run_stO (x := ⟨xs0, xp, xb⟩) (v := u) hu1 (hv.there (o := 0) (n := 3) (by rw [oc_length]; omega)), hv.over (m := oc ⟨xs0, xp, xb⟩ u) rfl, below_setCells hb hg 0 _⟩)
      cases mx
      · have tk : True := trivial
        go_wp2_with (first
          | (clear tk; refine wpList_alloc_ob rfl rfl ?_; intro g3 w3 hv3 hg3 hb3; obtain ⟨hst, hV, hb4⟩ := A4.out g3 w3 hv3.out hg3 hb3; have V4 := Lib.hid hV; have hld4 := run_ldW 3 _ hV.whole rfl Try.underlying37 rfl Try.sizeOb; have B4 := Lib.hid hb4; clear hv3 hg3 hb3 hV hb4)
          | (go_at_call 18; refine (hm0.out _ B4.out).mono ?_; rintro e w5 ⟨rfl, hb5⟩; have B5 := Lib.hid (below_two B4.out hb5); clear hb5))
        go_roundg q
        case measure => omega
        case rel => exact ⟨k + 1, by omega, by go_num, by rw [hT.out, msec_snoc_no hM.out]; exact hR.out.on B5.out, hB.out.trans (B5.out.mono hB.out.size)⟩
      · obtain ⟨h1, h2, h3, h4⟩ := mayO_is.1 hM.out
        simp only at h1
        obtain ⟨p, hp⟩ : ∃ p : Nat, xs0 = (p : Int) := Int.eq_ofNat_of_zero_le h1
        subst hp
        have tk : True := trivial
        go_wp2_with (first
          | (clear tk; refine wpList_alloc_ob rfl rfl ?_; intro g3 w3 hv3 hg3 hb3; obtain ⟨hst, hV, hb4⟩ := A4.out g3 w3 hv3.out hg3 hb3; have V4 := Lib.hid hV; have hld4 := run_ldW 3 _ hV.whole rfl Try.underlying37 rfl Try.sizeOb; have B4 := Lib.hid hb4; clear hv3 hg3 hb3 hV hb4)
          | (go_at_call 18; refine (hm0.out _ B4.out).mono ?_; rintro e w5 ⟨rfl, hb5⟩; have B5 := Lib.hid (below_two B4.out hb5); have V5 := Lib.hid (V4.out.on' hb5); have c0 := V5.out.cell (k := 0) rfl; clear hb5)
          | (at_builtin; refine wpList_append_nat rfl (.tmp 14) (.tmp 17) rfl w.heap.size u3 (msec (xs.take k)) rfl ((hR.out.on B5.out).alloc _) ⟨w5.heap.size, 0, none⟩ 1 p rfl (nat_new _ _) (by have := hlz.out; omega) (by have := hB.out.size; have := B5.out.size; simp; omega) ?_; intro v6 w6 ho6 hg6 hn6))
        go_roundg q
        case measure => omega
        case rel => exact ⟨k + 1, by omega, by go_num, by rw [hT.out, msec_snoc_yes hM.out]; exact ho6.out, (hB.out.trans ((B5.out.alloc B5.out.size _).mono hB.out.size)).trans (grownBy_below hg6.out (by have := hB.out.size; have := B5.out.size; simp; omega) fun k hk => (hR.out.block k hk).1)⟩
    · have hkn : k = n := by omega
      have ht : xs.take k = xs := List.take_of_length_le (by rw [hl'.out]; omega)
      have hR2 := hR.out
      rw [ht] at hR2
      have hR3 := Lib.hid hR2
      clear hR2
      have hls := Lib.hid (show (msec xs).length ≤ 100000 from Nat.le_trans (msec_len xs) (by rw [hl'.out]; exact hn))
      go_wp2_with (first
        | (go_at_call 28; refine (sort_c hR3.out (by have := hls.out; omega)).mono ?_; rintro e w5 ⟨rfl, ho5, hg5⟩; have H5 := Lib.hid ho5; have G5 := Lib.hid hg5; clear ho5 hg5)
        | (go_at_call 29; refine (compact_c H5.out (by rw [srt_len]; have := hls.out; omega) (srt_le _)).mono ?_; rintro e w6 ⟨v6, Z, rfl, ho6, hu6, hg6⟩; have H6 := Lib.hid ho6; have U6 := Lib.hid hu6; have G6 := Lib.hid hg6; clear ho6 hg6 hu6))
      go_ret
      have hs : ∀ k, u3.ownBlock = some k → w.heap.size ≤ k := fun k hk => (hR.out.block k hk).1
      exact ⟨_, Z, rfl, H6.out, ⟨U6.out.lt, fun z => (U6.out.mem z).trans srt_mem⟩, (hB.out.trans (grownBy_below G5.out hB.out.size hs)).trans (grownBy_below G6.out (Nat.le_trans hB.out.size G5.out.size) hs)⟩
end Go.Proofs.Ytcmomnfefaolaaa
