/-
  Objects laid over a sector.
-/
import Derived.Test.YtcmomnfefaolaaaRlb
import Derived.Test.YtcmomnfefaolaaaRle
import Derived.Deep.LoopGhost
import Derived.Deep.DeepCutAuto
import Derived.StillTailTactics
namespace Go.Proofs.Ytcmomnfefaolaaa
open Go.RowKit BigFrame
set_option maxRecDepth 100000
attribute [local go_sem ↓] ldK_of stK_of ldO_of stO_of
theorem wpList_alloc_blk {w : World} {ops : Array Oper} {rest : List Oper} {o : Oper} {a : Act} {Q : Exit → Act → World → Prop} (hgd : o.guard = none) (ho : o.op = .alloc 48)
    (h : ∀ g w1, Hid (RowT w1 48 g (zs 128)) → w.heap.size ≤ g → Below w.heap.size w w1 → wpList Try.prog ops Q rest (a.put o.dst (.pointer (some ⟨g, 0, none⟩))) w1) : wpList Try.prog ops Q (o :: rest) a w :=
  wpList_alloc_zeros Try.info128 hgd ho h
theorem lay1_no {s : Int} {L : List Nat} {x : Ob} (h : mayO x = false) : lay1 s L x = L := by unfold lay1; rw [if_neg (by rw [h]; simp)]
theorem lay1_other {s : Int} {L : List Nat} {x : Ob} (h : ¬ x.s = s) : lay1 s L x = L := by unfold lay1; rw [if_neg (fun e => h e.2)]
theorem lay1_yes {s : Int} {L : List Nat} {x : Ob} {p : Nat} (h : mayO x = true) (hs : x.s = s) (hp : x.p = (p : Int)) : lay1 s L x = splice L p (x.b.take (128 - p)) := by
  obtain ⟨h1, h2, h3, h4⟩ := mayO_is.1 h
  unfold lay1
  rw [if_pos ⟨h, hs⟩, hp, List.take_of_length_le (by omega)]
  rfl
/-- a variable of one's own that is a sector, as a slice -/
def GivesT (l : List Nat) (w : World) (e : Ending) (w' : World) : Prop := ∃ g, e = .returned (.slice (some ⟨g, 0, none⟩) 128 128) ∧ w.heap.size ≤ g ∧ RowT w' 48 g l ∧ Below w.heap.size w w'
set_option maxHeartbeats 4000000 in
theorem over_c (old : Value) (l : List Nat) (s : Int) (os : Value) (xs : List Ob) (w : World) (hs : SlB w old l) (ho : SlO w os xs) (hn : xs.length ≤ 100000) (hb : ∀ x ∈ xs, x.b.length ≤ 100000) :
    Calls Try.prog 9 #[old, .int .i64 s, os] w (GivesT (lays s (sec l) xs) w) := by
  obtain ⟨a, cap, rfl, hc, hX, hnil⟩ := ho
  obtain ⟨n, hl⟩ : ∃ n, xs.length = n := ⟨_, rfl⟩
  rw [hl] at hc hn ⊢
  have hX' := Lib.hid hX
  have hl' := Lib.hid hl
  have hs' := Lib.hid hs
  have hb' := Lib.hid hb
  clear hl hX hs hb hnil
  go_enter Try.func9, Try.ntmps9
  go_wp2_with (first
    | (go_at_call 27; refine (whole_c _ l _ hs'.out).mono ?_; rintro e w1 ⟨rfl, hb1⟩; have B1 := Lib.hid hb1; clear hb1; unfold kv)
    | (refine wpList_alloc_blk rfl rfl ?_; intro g2 w2 hr2 hg2 hb2; have hst := run_stK hr2.out (zs_length 128) (sec_length l); have R2 := Lib.hid (hr2.out.over (m := sec l) (by rw [sec_length, zs_length])); have G2 := Lib.hid (Nat.le_trans B1.out.size hg2); have B2 := Lib.hid (below_setCells (below_two B1.out hb2) G2.out 0 (bv (sec l))); unfold kv at hst; clear hr2 hg2 hb2))
  go_loopg [9, 14] n (fun q v9 v14 wr => ∃ k : Nat, k + q = n ∧ v14 = .int .i64 (k : Int) ∧ RowT wr 48 g2 (lays s (sec l) (xs.take k)) ∧ Below w.heap.size w wr)
  case atStart => exact ⟨0, by omega, rfl, R2.out, B2.out⟩
  case round =>
    obtain ⟨k, hkg, rfl, hrow, hbel⟩ := hrel
    by_cases hlt : k < n
    · obtain ⟨q, rfl⟩ : ∃ q, gk = q + 1 := ⟨gk - 1, by omega⟩
      obtain ⟨b, off, u, had, hobj⟩ := (hX'.out.on hbel).at (k := k) (by rw [hl'.out]; exact hlt)
      subst had
      have hlen := hb'.out _ (ob_mem (L := xs) (k := k) (by rw [hl'.out]; exact hlt))
      have htake := ob_take (L := xs) (k := k) (by rw [hl'.out]; exact hlt)
      obtain ⟨x, hx⟩ : ∃ x, ob xs k = x := ⟨_, rfl⟩
      rw [hx] at hobj hlen htake
      have hO := Lib.hid hobj
      have hR := Lib.hid hrow
      have hB := Lib.hid hbel
      have hT := Lib.hid htake
      have hld := run_ldO hobj.1
      clear hobj hrow hbel htake hx
      have hu1 := hO.out.2.one
      have hm0 := Lib.hid (fun w' (hb : Below wr.heap.size wr w') => may_c x u w' (hO.out.2.on hb) hlen)
      obtain ⟨mx, hmx⟩ : ∃ m, mayO x = m := ⟨_, rfl⟩
      rw [hmx] at hm0
      have hM := Lib.hid hmx
      clear hmx
      have nxt : ∀ L', lay1 s (lays s (sec l) (xs.take k)) x = L' → lays s (sec l) (xs.take (k + 1)) = L' := fun L' h => by rw [hT.out, lays_snoc]; exact h
      have hN := Lib.hid nxt
      clear nxt
      obtain ⟨L, hL⟩ : ∃ L, lays s (sec l) (xs.take k) = L := ⟨_, rfl⟩
      have hLl : L.length = 128 := by rw [← hL]; exact lays_length (sec_length l)
      have hLl := Lib.hid hLl
      rw [hL] at hR hN
      clear hL
      unfold ov oc at hld hm0
      obtain ⟨xs0, xp, xb⟩ := x
      simp only at hld hlen hm0
      have A4 : Hid (∀ g3 w3, Vw w3 37 g3 (oc o0 (.slice none 0 0)) → wr.heap.size ≤ g3 → Below wr.heap.size wr w3 → (stA 37 (.pointer (some ⟨g3, 0, none⟩)) (.agg #[.int .i64 xs0, .int .i64 xp, u])).run Try.prog w3 = .ok () (w3.setCells g3 0 [.int .i64 xs0, .int .i64 xp, u]) ∧ Vw (w3.setCells g3 0 [.int .i64 xs0, .int .i64 xp, u]) 37 g3 [.int .i64 xs0, .int .i64 xp, u] ∧ Below wr.heap.size wr (w3.setCells g3 0 [.int .i64 xs0, .int .i64 xp, u])) :=
        Lib.hid (fun g3 w3 hv hg hb => ⟨run_stO (x := ⟨xs0, xp, xb⟩) (v := u) hu1 (hv.there (o := 0) (n := 3) (by rw [oc_length]; omega)), hv.over (m := oc ⟨xs0, xp, xb⟩ u) rfl, below_setCells hb hg 0 _⟩)
      cases mx
      · have tk : True := trivial
        go_wp2_with (first
          | (clear tk; refine wpList_alloc_ob rfl rfl ?_; intro g3 w3 hv3 hg3 hb3; obtain ⟨hst, hV, hb4⟩ := A4.out g3 w3 hv3.out hg3 hb3; have V4 := Lib.hid hV; have hld4 := run_ldW 3 _ hV.whole rfl Try.underlying37 rfl Try.sizeOb; have B4 := Lib.hid hb4; clear hv3 hg3 hb3 hV hb4)
          | (go_at_call 18; refine (hm0.out _ B4.out).mono ?_; rintro e w5 ⟨rfl, hb5⟩; have B5 := Lib.hid (below_two B4.out hb5); clear hb5))
        go_roundg q
        case measure => omega
        case rel => exact ⟨k + 1, by omega, by go_num, by rw [hN.out L (lay1_no hM.out)]; exact hR.out.on B5.out hR.out.lt, hB.out.trans (B5.out.mono hB.out.size)⟩
      · obtain ⟨h1, h2, h3, h4⟩ := mayO_is.1 hM.out
        simp only at h1 h2 h3 h4
        obtain ⟨p, hp⟩ : ∃ p : Nat, xp = (p : Int) := Int.eq_ofNat_of_zero_le h2
        subst hp
        by_cases hss : xs0 = s
        · subst hss
          have tk : True := trivial
          go_upto_region 6 with (first
            | (clear tk; refine wpList_alloc_ob rfl rfl ?_; intro g3 w3 hv3 hg3 hb3; obtain ⟨hst, hV, hb4⟩ := A4.out g3 w3 hv3.out hg3 hb3; have V4 := Lib.hid hV; have hld4 := run_ldW 3 _ hV.whole rfl Try.underlying37 rfl Try.sizeOb; have B4 := Lib.hid hb4; clear hv3 hg3 hb3 hV hb4)
            | (go_at_call 18; refine (hm0.out _ B4.out).mono ?_; rintro e w5 ⟨rfl, hb5⟩; have B5 := Lib.hid (below_two B4.out hb5); have V5 := Lib.hid (V4.out.on' hb5); have c0 := V5.out.cell (k := 0) rfl; clear hb5))
          have c1 := V5.out.cell (k := 1) rfl
          have c2 := V5.out.cell (k := 2) rfl
          have R5 := Lib.hid (hR.out.on B5.out hR.out.lt)
          have U5 := Lib.hid (hO.out.2.on B5.out)
          obtain ⟨ua, ucap, hu, huc, hux, hun⟩ := U5.out
          simp only at hu huc hux
          obtain ⟨m, hm⟩ : ∃ m, xb.length = m := ⟨_, rfl⟩
          rw [hm] at hu huc h3 h4
          subst hu
          have X5 := Lib.hid hux
          have hm' := Lib.hid hm
          have q1 : p ≤ 128 := by omega
          have q2 : (p : Int) ≤ 128 := by omega
          have q4 : ¬ 128 = p := by omega
          clear hux hm huc
          go_still_tail 5, (by kernel_rfl)
          change wpList _ _ _ _ _ w5.drew
          go_wp2_with (refine wpList_copy_bytesT 48 rfl (.tmp 28) (.tmp 30) rfl g2 p (128 - p) (128 - p) ua m ucap L xb rfl rfl hm'.out R5.out.drew1 X5.out.drew1 (by rw [hLl.out]; omega) w.heap.size w (hB.out.trans ((below_two B5.out (below_drewN w5 1)).mono hB.out.size)) G2.out ?_; intro w7 hr7 hb7; have R7 := hr7; have B7 := Lib.hid hb7; clear hb7)
          go_roundg q
          case measure => omega
          case rel => exact ⟨k + 1, by omega, by go_num, by rw [hN.out _ (lay1_yes hM.out rfl rfl)]; exact R7.out, B7.out⟩
        · have hdd : decide (xs0 = s) = false := decide_eq_false hss
          have hss' := Lib.hid hss
          have tk : True := trivial
          go_wp2_with (first
            | (clear tk; refine wpList_alloc_ob rfl rfl ?_; intro g3 w3 hv3 hg3 hb3; obtain ⟨hst, hV, hb4⟩ := A4.out g3 w3 hv3.out hg3 hb3; have V4 := Lib.hid hV; have hld4 := run_ldW 3 _ hV.whole rfl Try.underlying37 rfl Try.sizeOb; have B4 := Lib.hid hb4; clear hv3 hg3 hb3 hV hb4)
            | (go_at_call 18; refine (hm0.out _ B4.out).mono ?_; rintro e w5 ⟨rfl, hb5⟩; have B5 := Lib.hid (below_two B4.out hb5); have V5 := Lib.hid (V4.out.on' hb5); have c0 := V5.out.cell (k := 0) rfl; clear hb5))
          go_roundg q
          case measure => omega
          case rel => exact ⟨k + 1, by omega, by go_num, by rw [hN.out L (lay1_other hss'.out)]; exact hR.out.on B5.out hR.out.lt, hB.out.trans (B5.out.mono hB.out.size)⟩
    · have hkn : k = n := by omega
      have ht : xs.take k = xs := List.take_of_length_le (by rw [hl'.out]; omega)
      rw [ht] at hrow
      have hR := Lib.hid hrow
      have hB := Lib.hid hbel
      clear hrow hbel
      go_wp2_with fail
      go_ret
      exact ⟨g2, rfl, G2.out, hR.out, hB.out⟩
end Go.Proofs.Ytcmomnfefaolaaa
