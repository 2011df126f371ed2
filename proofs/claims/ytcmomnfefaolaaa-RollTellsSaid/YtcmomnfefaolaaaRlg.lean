/-
  Objects laid over a sector: the document's own.
-/
import Derived.Test.YtcmomnfefaolaaaRlf
namespace Go.Proofs.Ytcmomnfefaolaaa
open Go.RowKit BigFrame
set_option maxRecDepth 100000
attribute [local go_sem ↓] ldO_of
set_option maxHeartbeats 4000000 in
theorem refOver_c (old : Value) (l : List Nat) (s : Int) (os : Value) (xs : List Ob) (w : World) (hs : SlB w old l) (ho : SlO w os xs) (hn : xs.length ≤ 100000) (hb : ∀ x ∈ xs, x.b.length ≤ 100000) :
    Calls Try.prog 13 #[old, .int .i64 s, os] w (GivesK (lays s (sec l) xs) w) := by
  obtain ⟨a, cap, rfl, hc, hX, hnil⟩ := ho
  obtain ⟨n, hl⟩ : ∃ n, xs.length = n := ⟨_, rfl⟩
  rw [hl] at hc hn ⊢
  have hX' := Lib.hid hX
  have hl' := Lib.hid hl
  have hs' := Lib.hid hs
  have hb' := Lib.hid hb
  clear hl hX hs hb hnil
  go_enter Try.func13, Try.ntmps13
  go_wp2_with (go_at_call 32; refine (sector_c _ l _ hs'.out).mono ?_; rintro e w2 ⟨g2, rfl, hg2, hr2, hb2⟩; have R2 := Lib.hid hr2; have G2 := Lib.hid hg2; have B2 := Lib.hid hb2; clear hr2 hg2 hb2)
  go_loopg [8] n (fun q v8 wr => ∃ k : Nat, k + q = n ∧ v8 = .int .i64 (k : Int) ∧ Row wr g2 (lays s (sec l) (xs.take k)) ∧ Below w.heap.size w wr)
  case atStart => exact ⟨0, by omega, rfl, R2.out, B2.out⟩
  case round =>
    obtain ⟨k, hkg, rfl, hrow, hbel⟩ := hrel
    by_cases hlt : k < n
    · obtain ⟨q, rfl⟩ : ∃ q, gk = q + 1 := ⟨gk - 1, by omega⟩
      obtain ⟨b, off, u, had, hobj⟩ := (hX'.out.on hbel).at (k := k) (by rw [hl'.out]; exact hlt)
      subst had
      have hlen := hb'.out _ (ob_mem (L := xs) (k := k) (by rw [hl'.out]; exact hlt))
      have htake := ob_take (L := xs) (k := k) (by rw [hl'.out]; exact hlt)
      obtain ⟨x, hx⟩ : ∃ x, ob xs k = x := ⟨_, rfl⟩
      rw [hx] at hobj hlen htake
      have hO := Lib.hid hobj
      have hR := Lib.hid hrow
      have hB := Lib.hid hbel
      have hT := Lib.hid htake
      have hld := run_ldO hobj.1
      have hm0 := Lib.hid (refMay_c x u wr hobj.2 hlen)
      clear hobj hrow hbel htake hx
      obtain ⟨mx, hmx⟩ : ∃ m, mayO x = m := ⟨_, rfl⟩
      rw [hmx] at hm0
      have hM := Lib.hid hmx
      clear hmx
      have nxt : ∀ L', lay1 s (lays s (sec l) (xs.take k)) x = L' → lays s (sec l) (xs.take (k + 1)) = L' := fun L' h => by rw [hT.out, lays_snoc]; exact h
      have hN := Lib.hid nxt
      clear nxt
      obtain ⟨L, hL⟩ : ∃ L, lays s (sec l) (xs.take k) = L := ⟨_, rfl⟩
      have hLl : L.length = 128 := by rw [← hL]; exact lays_length (sec_length l)
      have hLl := Lib.hid hLl
      rw [hL] at hR hN
      clear hL
      unfold ov oc at hld hm0
      obtain ⟨xs0, xp, xb⟩ := x
      simp only at hld hlen hm0
      cases mx
      · go_wp2_with (go_at_call 19; refine hm0.out.mono ?_; rintro e w5 ⟨rfl, hb5⟩; have B5 := Lib.hid hb5; clear hb5)
        go_roundg q
        case measure => omega
        case rel => exact ⟨k + 1, by omega, by go_num, by rw [hN.out L (lay1_no hM.out)]; exact hR.out.on B5.out hR.out.lt, hB.out.trans (B5.out.mono hB.out.size)⟩
      · obtain ⟨h1, h2, h3, h4⟩ := mayO_is.1 hM.out
        simp only at h1 h2 h3 h4
        obtain ⟨p, hp⟩ : ∃ p : Nat, xp = (p : Int) := Int.eq_ofNat_of_zero_le h2
        subst hp
        by_cases hss : xs0 = s
        · subst hss
          go_upto_region 6 with (go_at_call 19; refine hm0.out.mono ?_; rintro e w5 ⟨rfl, hb5⟩; have B5 := Lib.hid hb5; have O5 := Lib.hid (hO.out.on hb5); have c0 := O5.out.c0; clear hb5)
          have c1 := O5.out.c1
          have c2 := O5.out.c2
          have R5 := Lib.hid (hR.out.on B5.out hR.out.lt)
          have U5 := Lib.hid O5.out.2
          obtain ⟨ua, ucap, hu, huc, hux, hun⟩ := U5.out
          simp only at hu huc hux c1 c2
          obtain ⟨m, hm⟩ : ∃ m, xb.length = m := ⟨_, rfl⟩
          rw [hm] at hu huc h3 h4
          subst hu
          have X5 := Lib.hid hux
          have hm' := Lib.hid hm
          have q1 : p ≤ 128 := by omega
          have q2 : (p : Int) ≤ 128 := by omega
          have q4 : ¬ 128 = p := by omega
          clear hux hm huc
          go_still_tail 12, (by kernel_rfl)
          change wpList _ _ _ _ _ w5.drew
          go_wp2_with (refine wpList_copy_bytes rfl (.tmp 37) (.tmp 42) rfl g2 p (128 - p) (128 - p) ua m ucap L xb rfl rfl hm'.out R5.out.drew1 X5.out.drew1 (by rw [hLl.out]; omega) w.heap.size w (hB.out.trans ((below_two B5.out (below_drewN w5 1)).mono hB.out.size)) G2.out ?_; intro w7 hr7 hb7; have R7 := hr7; have B7 := Lib.hid hb7; clear hb7)
          go_roundg q
          case measure => omega
          case rel => exact ⟨k + 1, by omega, by go_num, by rw [hN.out _ (lay1_yes hM.out rfl rfl)]; exact R7.out, B7.out⟩
        · have hdd : decide (xs0 = s) = false := decide_eq_false hss
          have hss' := Lib.hid hss
          go_wp2_with (go_at_call 19; refine hm0.out.mono ?_; rintro e w5 ⟨rfl, hb5⟩; have B5 := Lib.hid hb5; have O5 := Lib.hid (hO.out.on hb5); have c0 := O5.out.c0; simp only at c0; clear hb5)
          go_roundg q
          case measure => omega
          case rel => exact ⟨k + 1, by omega, by go_num, by rw [hN.out L (lay1_other hss'.out)]; exact hR.out.on B5.out hR.out.lt, hB.out.trans (B5.out.mono hB.out.size)⟩
    · have hkn : k = n := by omega
      have ht : xs.take k = xs := List.take_of_length_le (by rw [hl'.out]; omega)
      rw [ht] at hrow
      have hR := Lib.hid hrow
      have hB := Lib.hid hbel
      clear hrow hbel
      go_wp2_with fail
      go_ret
      exact ⟨g2, rfl, G2.out, hR.out, hB.out⟩
end Go.Proofs.Ytcmomnfefaolaaa
