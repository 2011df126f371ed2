/-
  The document's own cache: the oldest that may go, gone.
  The document's own cache: a flag of a row is turned; Pin.
  The document's own cache: Get of what is held.
  The document's own disk in memory: its rows are never written again.
  The document's own disk: on again.
-/
import Derived.Test.YtnfaeejeipbciaaB13
import Derived.StillTailTactics
import Derived.Test.YtnfaeejeipbciaaB6
import Derived.Test.YtnfaeejeipbciaaB7
import Derived.Test.YtnfaeejeipbciaaB9

section
set_option linter.unusedVariables false
set_option linter.unusedSimpArgs false
namespace Go.Proofs.Ytnfaeejeipbciaa
open Go.RowKit BigFrame Go.Lib
set_option maxRecDepth 100000

section
variable {w w' wr : World} {B : Nat} {M M' : List Nat} {c : RC} {L : List Rr}
def Rr.free (r : Rr) : Bool := !r.dirty && !r.pin
/-- the oldest n that may go, gone; how many they are -/
def dropR : List Rr → Nat → List Rr
  | [], _ => []
  | x :: r, n => if x.free = true ∧ 0 < n then dropR r (n - 1) else x :: dropR r n
def goneR : List Rr → Nat → Nat
  | [], _ => 0
  | x :: r, n => if x.free = true ∧ 0 < n then goneR r (n - 1) + 1 else goneR r n
theorem dropR_sub : ∀ (H : List Rr) (n : Nat), (dropR H n).Sublist H
  | [], _ => List.Sublist.refl _
  | x :: r, n => by
    rw [dropR]
    split
    · exact (dropR_sub r (n - 1)).cons _
    · exact (dropR_sub r n).cons_cons _
theorem drop_at {k : Nat} {r : Rr} (h : L[k]? = some r) : L.drop k = r :: L.drop (k + 1) := by
  obtain ⟨hk, e⟩ := List.getElem?_eq_some_iff.1 h
  rw [List.drop_eq_getElem_cons hk, e]
theorem drop_keep {k n : Nat} {r : Rr} (h : L[k]? = some r) (hn : ¬ (r.free = true ∧ 0 < n)) : dropR (L.drop k) n = r :: dropR (L.drop (k + 1)) n ∧ goneR (L.drop k) n = goneR (L.drop (k + 1)) n := by
  rw [drop_at h, dropR, goneR, if_neg hn, if_neg hn]; exact ⟨rfl, rfl⟩
theorem drop_go {k n : Nat} {r : Rr} (h : L[k]? = some r) (h1 : r.free = true) (hn : 0 < n) : dropR (L.drop k) n = dropR (L.drop (k + 1)) (n - 1) ∧ goneR (L.drop k) n = goneR (L.drop (k + 1)) (n - 1) + 1 := by
  rw [drop_at h, dropR, goneR, if_pos ⟨h1, hn⟩, if_pos ⟨h1, hn⟩]; exact ⟨rfl, rfl⟩
/-- the loop: k are seen, gn are gone, O are kept -/
def DrRel (w : World) (L : List Rr) (n nL : Nat) (g : Nat) (v gv i : Value) (wr : World) : Prop :=
  ∃ (k gn : Nat) (O : List Rr), k + g = nL ∧ i = .int .i64 (k : Int) ∧ gv = .int .i64 (gn : Int) ∧ gn ≤ n ∧ O.length + gn ≤ k ∧ OwnR wr w.heap.size v O ∧ Below w.heap.size w wr ∧ O ++ dropR (L.drop k) (n - gn) = dropR L n ∧ gn + goneR (L.drop k) (n - gn) = goneR L n
set_option maxHeartbeats 4000000 in
theorem drop_r (h : RcAt w B M c) (a : Int) (ha : -1000000 ≤ a ∧ a ≤ 1000000) (hBw : B ≤ w.heap.size) (hM : ∀ k ∈ M, k < w.heap.size) :
    Calls Try.prog 36 #[pv c.W, .int .i64 a] w fun e w' => e = .returned (.int .i64 ((goneR c.L a.toNat : Nat) : Int)) ∧ LaidR c B M (dropR c.L a.toNat) w w' := by
  obtain ⟨n, hn⟩ : ∃ n, a.toNat = n := ⟨_, rfl⟩
  rw [hn]
  have hna : ∀ gn : Nat, gn ≤ n → ((gn : Int) < a ↔ gn < n) := fun gn h => by omega
  have hna' := Lib.hid hna
  have hn' := Lib.hid hn
  have c2 : w.cell? ⟨c.W, 2, none⟩ = some c.lv := h.hdr.cell rfl
  have hlen := h.few
  obtain ⟨nL, hnL⟩ : ∃ nL, c.L.length = nL := ⟨_, rfl⟩
  obtain ⟨lp, lc, hlv⟩ : ∃ lp lc, c.lv = .slice lp nL lc := by
    rw [← hnL]
    rcases h.form with ⟨e, e0⟩ | ⟨g, cap, e, _⟩
    · exact ⟨none, 0, by rw [e, e0]; rfl⟩
    · exact ⟨_, _, e⟩
  rw [hlv] at c2
  rw [hnL] at hlen
  have hh := Lib.hid h
  have hnL' := Lib.hid hnL
  have hlv' := Lib.hid hlv
  clear h hnL hlv hn hna
  unfold pv
  go_enter Try.func36, Try.ntmps36
  go_wp2_with fail
  clear c2
  go_loopg [5, 6, 7] nL (fun g v gv i wr => DrRel w c.L n nL g v gv i wr)
  case atStart => exact ⟨0, 0, [], by omega, rfl, rfl, Nat.zero_le _, Nat.le_refl _, OwnR.nil _ _, Below.refl _ _, by simp, by simp⟩
  case round =>
    obtain ⟨k, gn, O, hkg, rfl, rfl, hgn, hOl, hown, hbel, hO, hG⟩ := hrel
    have hR2 := hh.out.read hbel
    have c2 : wr.cell? ⟨c.W, 2, none⟩ = some c.lv := hR2.hdr.cell rfl
    rw [hlv'.out] at c2
    have hsz := hbel.size
    have hown' := Lib.hid hown
    have hbel' := Lib.hid hbel
    have hO' := Lib.hid hO
    have hG' := Lib.hid hG
    by_cases hlt : k < nL
    · obtain ⟨g, rfl⟩ : ∃ g, gk = g + 1 := ⟨gk - 1, by omega⟩
      obtain ⟨r, hr⟩ : ∃ r, c.L[k]? = some r := ⟨_, List.getElem?_eq_getElem (by rw [hnL'.out]; exact hlt)⟩
      obtain ⟨b, cap, e1, hcap, _, r0, r1, r2, r3⟩ := hR2.get hr
      rw [hlv'.out, hnL'.out] at e1
      cases e1
      rw [hnL'.out] at hcap
      obtain ⟨p, hp⟩ : ∃ p, r.pos = p := ⟨_, rfl⟩
      obtain ⟨dt, hdt⟩ : ∃ dt, r.dirty = dt := ⟨_, rfl⟩
      obtain ⟨pn, hpn⟩ : ∃ pn, r.pin = pn := ⟨_, rfl⟩
      rw [hp] at r0
      rw [hdt] at r2
      rw [hpn] at r3
      have hr' := Lib.hid hr
      have hp' := Lib.hid hp
      have ON := Lib.hid (hR2.rows r (List.mem_of_getElem? hr)).oneCell
      have ht3 := Lib.hid (show O.length + 1 ≤ 1000000 by omega)
      clear hown hbel hr hp hR2 hO hG
      by_cases hgl : gn < n
      · have t1 : decide ((gn : Int) < a) = true := decide_eq_true ((hna'.out gn hgn).2 hgl)
        cases dt
        · cases pn
          · have hfr := Lib.hid (show r.free = true by unfold Rr.free; rw [hdt, hpn]; rfl)
            clear hdt hpn
            go_wp2_with fail
            go_roundg g
            case measure => omega
            case rel =>
              have hst := drop_go hr'.out hfr.out (show 0 < n - gn by omega)
              exact ⟨k + 1, gn + 1, O, by omega, by go_num, by go_num, by omega, by omega, hown'.out, hbel'.out, by rw [← hO'.out, hst.1]; rfl, by rw [← hG'.out, hst.2]; show gn + 1 + goneR _ (n - gn - 1) = _; omega⟩
          · have hdt' := Lib.hid hdt
            have hpn' := Lib.hid hpn
            clear hdt hpn
            have RG := Lib.hid (show (wr.alloc (Obj.cells #[.int .i64 (p : Int), r.v, .bool false, .bool true] 88)).rangeAt wr.heap.size 0 r.cells by
              have := held_new wr r
              unfold Rr.cells at this ⊢
              rw [hp'.out, hdt'.out, hpn'.out] at this ⊢; exact this)
            have OW := Lib.hid (hown'.out.alloc (Obj.cells #[.int .i64 (p : Int), r.v, .bool false, .bool true] 88))
            have B2 := Lib.hid (hbel'.out.alloc hsz (Obj.cells #[.int .i64 (p : Int), r.v, .bool false, .bool true] 88))
            have hZ := Lib.hid (show w.heap.size ≤ (wr.alloc (Obj.cells #[.int .i64 (p : Int), r.v, .bool false, .bool true] 88)).heap.size from B2.out.size)
            go_wp2_with (at_builtin; refine wpList_append_held rfl (.tmp 44) (.tmp 52) rfl w.heap.size _ _ rfl OW.out wr.heap.size 1 r rfl RG.out ON.out ht3.out hZ.out ?_; intro v4 w4 ho4 hg4)
            go_roundg g
            case measure => omega
            case rel =>
              have hst := drop_keep hr'.out (show ¬ (r.free = true ∧ 0 < n - gn) by unfold Rr.free; rw [hpn'.out]; simp)
              exact ⟨k + 1, gn, O ++ [r], by omega, by go_num, rfl, hgn, by rw [List.length_append]; simp; omega, ho4.out, B2.out.grown hg4.out hZ.out (fun j hj => (OW.out.block j hj).1), by rw [← hO'.out, hst.1]; simp, by rw [← hG'.out, hst.2]⟩
        · have hdt' := Lib.hid hdt
          have hpn' := Lib.hid hpn
          clear hdt hpn
          have RG := Lib.hid (show (wr.alloc (Obj.cells #[.int .i64 (p : Int), r.v, .bool true, .bool pn] 88)).rangeAt wr.heap.size 0 r.cells by
            have := held_new wr r
            unfold Rr.cells at this ⊢
            rw [hp'.out, hdt'.out, hpn'.out] at this ⊢; exact this)
          have OW := Lib.hid (hown'.out.alloc (Obj.cells #[.int .i64 (p : Int), r.v, .bool true, .bool pn] 88))
          have B2 := Lib.hid (hbel'.out.alloc hsz (Obj.cells #[.int .i64 (p : Int), r.v, .bool true, .bool pn] 88))
          have hZ := Lib.hid (show w.heap.size ≤ (wr.alloc (Obj.cells #[.int .i64 (p : Int), r.v, .bool true, .bool pn] 88)).heap.size from B2.out.size)
          go_wp2_with (at_builtin; refine wpList_append_held rfl (.tmp 44) (.tmp 52) rfl w.heap.size _ _ rfl OW.out wr.heap.size 1 r rfl RG.out ON.out ht3.out hZ.out ?_; intro v4 w4 ho4 hg4)
          go_roundg g
          case measure => omega
          case rel =>
            have hst := drop_keep hr'.out (show ¬ (r.free = true ∧ 0 < n - gn) by unfold Rr.free; rw [hdt'.out]; simp)
            exact ⟨k + 1, gn, O ++ [r], by omega, by go_num, rfl, hgn, by rw [List.length_append]; simp; omega, ho4.out, B2.out.grown hg4.out hZ.out (fun j hj => (OW.out.block j hj).1), by rw [← hO'.out, hst.1]; simp, by rw [← hG'.out, hst.2]⟩
      · have t1 : decide ((gn : Int) < a) = false := decide_eq_false (fun e => hgl ((hna'.out gn hgn).1 e))
        have hdt' := Lib.hid hdt
        have hpn' := Lib.hid hpn
        clear hdt hpn
        have RG := Lib.hid (show (wr.alloc (Obj.cells #[.int .i64 (p : Int), r.v, .bool dt, .bool pn] 88)).rangeAt wr.heap.size 0 r.cells by
          have := held_new wr r
          unfold Rr.cells at this ⊢
          rw [hp'.out, hdt'.out, hpn'.out] at this ⊢; exact this)
        have OW := Lib.hid (hown'.out.alloc (Obj.cells #[.int .i64 (p : Int), r.v, .bool dt, .bool pn] 88))
        have B2 := Lib.hid (hbel'.out.alloc hsz (Obj.cells #[.int .i64 (p : Int), r.v, .bool dt, .bool pn] 88))
        have hZ := Lib.hid (show w.heap.size ≤ (wr.alloc (Obj.cells #[.int .i64 (p : Int), r.v, .bool dt, .bool pn] 88)).heap.size from B2.out.size)
        go_wp2_with (at_builtin; refine wpList_append_held rfl (.tmp 44) (.tmp 52) rfl w.heap.size _ _ rfl OW.out wr.heap.size 1 r rfl RG.out ON.out ht3.out hZ.out ?_; intro v4 w4 ho4 hg4)
        go_roundg g
        case measure => omega
        case rel =>
          have hst := drop_keep hr'.out (show ¬ (r.free = true ∧ 0 < n - gn) by omega)
          exact ⟨k + 1, gn, O ++ [r], by omega, by go_num, rfl, hgn, by rw [List.length_append]; simp; omega, ho4.out, B2.out.grown hg4.out hZ.out (fun j hj => (OW.out.block j hj).1), by rw [← hO'.out, hst.1]; simp, by rw [← hG'.out, hst.2]⟩
    · obtain rfl : k = nL := by omega
      have ht : c.L.drop k = [] := List.drop_of_length_le (by rw [hnL'.out]; exact Nat.le_refl _)
      rw [ht] at hO hG
      have hOe : O = dropR c.L n := by rw [← hO]; simp [dropR]
      have hGe : gn = goneR c.L n := by rw [← hG]; simp [goneR]
      have hO1 := Lib.hid hOe
      have hG1 := Lib.hid hGe
      have R4 := Lib.hid (hh.out.read hbel'.out)
      have f4 := R4.out.hdr.frozen 2
      obtain ⟨n4, ap4, cap4, hv4⟩ := hown'.out.sl
      subst hv4
      clear hown hbel hO hG hR2 ht hOe hGe
      go_wp2_with fail
      go_ret
      have hsub := dropR_sub c.L n
      obtain ⟨h1, h2⟩ := RcAt.lay hh.out hbel'.out (L := dropR c.L n) (by rw [← hO1.out]; exact hown'.out) (fun r hr => hh.out.rows r (hsub.subset hr)) (hh.out.pos.sublist (hsub.map _)) (fun r hr => hh.out.low r (hsub.subset hr)) hBw hM
      exact ⟨by rw [hG1.out]; rfl, _, h1, h2⟩
end
end Go.Proofs.Ytnfaeejeipbciaa
end

section
set_option linter.unusedVariables false
set_option linter.unusedSimpArgs false
namespace Go.Proofs.Ytnfaeejeipbciaa
open Go.RowKit BigFrame Go.Lib
set_option maxRecDepth 100000

section
variable {w w' wr : World} {B : Nat} {M M' : List Nat} {c : RC} {L : List Rr}
theorem own_put {e : TypeId} {size n g k : Nat} {v u : Value} {xs : List Value} (h : w.ownsRow B e size v n xs) (hg : v.ownBlock = some g) (hk : k < xs.length) : (w.setCell ⟨g, k, none⟩ u).ownsRow B e size v n (xs.set k u) := by
  obtain ⟨hl, ⟨e1, _⟩ | ⟨g', cap, cur, e1, hg', hb, hc, hm, hs, ht⟩⟩ := h
  · rw [e1] at hg; cases hg
  · rw [e1] at hg
    obtain rfl : g' = g := by simpa [Value.ownBlock] using hg
    refine ⟨by rw [List.length_set]; exact hl, .inr ⟨g', cap, cur.setIfInBounds k u, e1, hg', ?_, hc, hm, by rw [Array.size_setIfInBounds]; exact hs, ?_⟩⟩
    · simp [World.setCell, Array.getElem?_modify, hb]
    · rw [Array.toList_setIfInBounds, List.take_set, ht]
theorem rrs_set : ∀ {L : List Rr} {k : Nat} {r r' : Rr} {j : Nat} {u : Value}, L[k]? = some r → j < 4 → r'.cells = r.cells.set j u → (rrs L).set (k * 4 + j) u = rrs (L.set k r')
  | [], _, _, _, _, _, h, _, _ => by simp at h
  | x :: L, 0, r, r', j, u, h, hj, hc => by
    simp only [List.getElem?_cons_zero, Option.some.injEq] at h
    subst h
    show (x.cells ++ rrs L).set (0 * 4 + j) u = r'.cells ++ rrs L
    rw [Nat.zero_mul, Nat.zero_add, List.set_append_left _ _ (by show j < 4; exact hj), hc]
  | x :: L, k + 1, r, r', j, u, h, hj, hc => by
    show (x.cells ++ rrs L).set ((k + 1) * 4 + j) u = x.cells ++ rrs (L.set k r')
    rw [List.set_append_right _ _ (by show 4 ≤ _; omega), show (k + 1) * 4 + j - x.cells.length = k * 4 + j by show (k + 1) * 4 + j - 4 = _; omega, rrs_set (by simpa using h) hj hc]
def RC.put (c : RC) (k : Nat) (r : Rr) : RC := { c with L := c.L.set k r }
/-- a flag is turned -/
theorem RcAt.put (h : RcAt w B M c) {k j g n cap : Nat} {r r' : Rr} {u : Value} (hr : c.L[k]? = some r) (hlv : c.lv = .slice (some ⟨g, 0, none⟩) n cap) (hj : j < 4) (hc : r'.cells = r.cells.set j u) (hp : r'.pos = r.pos) (hv : r'.v = r.v) (hb : r'.b = r.b) :
    RcAt (w.setCell ⟨g, k * 4 + j, none⟩ u) B M (c.put k r') ∧ Step w c.foot (w.setCell ⟨g, k * 4 + j, none⟩ u) c.foot := by
  have hg : c.lv.ownBlock = some g := by rw [hlv]; rfl
  have hgf : g ∈ c.foot := RC.foot_l hg
  have hs : Step w c.foot (w.setCell ⟨g, k * 4 + j, none⟩ u) c.foot := (Step.refl _ _).setCell _ _ _ hgf
  have hk := (List.getElem?_eq_some_iff.1 hr).1
  have hrm := List.mem_of_getElem? hr
  have hin : ∀ x ∈ c.L.set k r', x = r' ∨ x ∈ c.L := fun x hx => (List.mem_or_eq_of_mem_set hx).symm
  have hst : Step w (c.foot ++ M) (w.setCell ⟨g, k * 4 + j, none⟩ u) (c.foot ++ M) := (Step.refl _ _).setCell _ _ _ (List.mem_append_left _ hgf)
  refine ⟨⟨?_, ?_, fun x hx => ?_, ?_, fun x hx => ?_, h.over⟩, hs⟩
  · have := h.hdr
    unfold Vw at this ⊢
    show (w.setCell ⟨g, k * 4 + j, none⟩ u).heap[c.W]? = _
    rw [heap_set_other _ ⟨g, k * 4 + j, none⟩ _ (show c.W ≠ g from fun e => h.lw hg e.symm)]; exact this
  · have := own_put (u := u) h.own hg (k := k * 4 + j) (by rw [rrs_length]; omega)
    rw [rrs_set hr hj hc] at this
    show World.ownsRow _ _ _ 4 c.lv (c.L.set k r').length _
    rw [List.length_set]; exact this
  · refine Kept.step ?_ hst
    rcases hin x hx with rfl | hx
    · rw [hv, hb]; exact h.rows r hrm
    · exact h.rows x hx
  · show ((c.L.set k r').map Rr.pos).Nodup
    rw [List.map_set, hp]
    have : (c.L.map Rr.pos).set k r.pos = c.L.map Rr.pos := by
      apply List.ext_getElem?
      intro i
      rw [List.getElem?_set]
      split
      · rename_i e
        subst e
        rw [if_pos (by simpa using hk)]
        simp [hr]
      · rfl
    rw [this]; exact h.pos
  · rcases hin x hx with rfl | hx
    · rw [hp]; exact h.low r hrm
    · exact h.low x hx
theorem RcAt.frozenL (h : RcAt w B M c) {g n cap o : Nat} (hlv : c.lv = .slice (some ⟨g, 0, none⟩) n cap) : w.frozen? ⟨g, o, none⟩ = false := by
  rcases h.form with ⟨e, _⟩ | ⟨g', cap', e, _, _, cur, hb⟩
  · rw [e] at hlv; cases hlv
  · rw [e] at hlv
    cases hlv
    simp [World.frozen?, hb]
/-- where one stands, when it is known -/
theorem rat_hit (h : RcAt w B M c) {k : Nat} {r : Rr} (hr : c.L[k]? = some r) : Calls Try.prog 47 #[pv c.W, .int .i64 ((r.pos : Nat) : Int)] w fun e w' => e = .returned (.int .i64 ((k : Nat) : Int)) ∧ w = w' := by
  have hp := h.low r (List.mem_of_getElem? hr)
  refine (rat_c h ((r.pos : Nat) : Int) (by unfold I64; omega)).mono ?_
  rintro e w' ⟨rfl, ⟨j, y, hy, hyp, rfl⟩ | ⟨hno, _⟩⟩
  · have hnd := h.pos
    have h1 : (c.L.map Rr.pos)[j]? = some y.pos := by simp [hy]
    have h2 : (c.L.map Rr.pos)[k]? = some r.pos := by simp [hr]
    obtain ⟨h3, h3e⟩ := List.getElem?_eq_some_iff.1 h1
    obtain ⟨h4, h4e⟩ := List.getElem?_eq_some_iff.1 h2
    have : j = k := by
      rcases Nat.lt_trichotomy j k with e | e | e
      · exact absurd (by rw [h3e, h4e]; omega) (List.pairwise_iff_getElem.1 hnd j k h3 h4 e)
      · exact e
      · exact absurd (by rw [h3e, h4e]; omega) (List.pairwise_iff_getElem.1 hnd k j h4 h3 e)
    subst this
    exact ⟨rfl, rfl⟩
  · exact absurd rfl (hno r (List.mem_of_getElem? hr))
theorem rat_none (h : RcAt w B M c) {a : Int} (ha : I64 a) (hno : ∀ r ∈ c.L, (r.pos : Int) ≠ a) : Calls Try.prog 47 #[pv c.W, .int .i64 a] w fun e w' => e = .returned (.int .i64 (-1)) ∧ w = w' := by
  refine (rat_c h a ha).mono ?_
  rintro e w' ⟨rfl, ⟨j, y, hy, hyp, rfl⟩ | ⟨_, rfl⟩⟩
  · exact absurd hyp (hno y (List.mem_of_getElem? hy))
  · exact ⟨rfl, rfl⟩
/-- at most so many, if enough may go -/
def trimR (most : Nat) (L : List Rr) : List Rr := dropR L (L.length - most)
theorem LaidR.then {L1 L2 : List Rr} {w1 w2 : World} (h1 : Step w c.foot w1 c.foot) (h2 : LaidR { c with L := L1 } B M L2 w1 w2) : LaidR c B M L2 w w2 := by
  obtain ⟨v, h3, h4⟩ := h2
  exact ⟨v, h3, h1.trans h4⟩
set_option maxHeartbeats 4000000 in
theorem rpin_hit (h : RcAt w B M c) {k : Nat} {r : Rr} (hr : c.L[k]? = some r) (b : Bool) (hm : c.most ≤ 100000) (hBw : B ≤ w.heap.size) (hM : ∀ k ∈ M, k < w.heap.size) :
    Calls Try.prog 34 #[pv c.W, .int .i64 ((r.pos : Nat) : Int), .bool b] w fun e w' => e = .returned (.int .i64 0) ∧ LaidR c B M (trimR c.most (c.L.set k { r with pin := b })) w w' := by
  have hat := Lib.hid (rat_hit h hr)
  have hlen := h.few
  obtain ⟨g, cap, hlv, hcap, hk, r0, r1, r2, r3⟩ := h.get hr
  have f3 := h.frozenL hlv (o := k * 4 + 3)
  have c2 : w.cell? ⟨c.W, 2, none⟩ = some c.lv := h.hdr.cell rfl
  obtain ⟨hP, hS⟩ := h.put (r' := { r with pin := b }) (j := 3) (u := .bool b) hr hlv (by omega) rfl rfl rfl rfl
  have P := Lib.hid hP
  have S1 := Lib.hid hS
  have d2 : (w.setCell ⟨g, k * 4 + 3, none⟩ (.bool b)).cell? ⟨c.W, 2, none⟩ = some c.lv := hP.hdr.cell rfl
  have d1 : (w.setCell ⟨g, k * 4 + 3, none⟩ (.bool b)).cell? ⟨c.W, 1, none⟩ = some (.int .i64 ((c.most : Nat) : Int)) := hP.hdr.cell rfl
  obtain ⟨nL, hnL⟩ : ∃ nL, c.L.length = nL := ⟨_, rfl⟩
  obtain ⟨m, hmm⟩ : ∃ m, c.most = m := ⟨_, rfl⟩
  rw [hlv, hnL] at c2 d2
  rw [hmm] at d1 hm
  rw [hnL] at hlen hk hcap
  obtain ⟨w1, hw1⟩ : ∃ w1, w.setCell ⟨g, k * 4 + 3, none⟩ (.bool b) = w1 := ⟨_, rfl⟩
  rw [hw1] at P S1 d1 d2
  have hw1' := Lib.hid hw1
  have hdr := Lib.hid (drop_r (P.out.read (below_drewN w1 1)) ((nL : Int) - (m : Int)) (by omega) (Nat.le_trans hBw S1.out.size) (fun k hk => Nat.lt_of_lt_of_le (hM k hk) S1.out.size))
  have hnL' := Lib.hid hnL
  have hmm' := Lib.hid hmm
  clear h hr hP hS hlv hnL hmm hw1
  unfold pv at hat hdr ⊢
  go_enter Try.func34, Try.ntmps34
  go_upto_region 5 with (go_at_call 47; refine hat.out.mono ?_; rintro e w1 ⟨rfl, rfl⟩)
  rw [hw1'.out]
  clear hw1' c2 r0 r1 r2 r3 f3
  go_still_tail 11, (by kernel_rfl)
  change wpList _ _ _ _ _ (w1.drewN 1)
  go_wp2_with (go_at_call 36; refine hdr.out.mono ?_; rintro e w2 ⟨rfl, v2, hL2, hS2⟩; have L2 := Lib.hid hL2; have S2 := Lib.hid hS2; clear hL2 hS2)
  go_ret
  refine ⟨rfl, v2, ?_, ?_⟩
  · have := L2.out
    rw [show ((nL : Int) - (m : Int)).toNat = nL - m by omega] at this
    unfold trimR
    rw [List.length_set, hnL'.out, hmm'.out]
    exact this
  · have := S2.out
    rw [show ((nL : Int) - (m : Int)).toNat = nL - m by omega] at this
    unfold trimR
    rw [List.length_set, hnL'.out, hmm'.out]
    exact (S1.out.trans (Step.of_below (below_drewN w1 1) _)).trans this
end
end Go.Proofs.Ytnfaeejeipbciaa
end

section
set_option linter.unusedVariables false
set_option linter.unusedSimpArgs false
namespace Go.Proofs.Ytnfaeejeipbciaa
open Go.RowKit BigFrame Go.Lib
set_option maxRecDepth 100000

section
variable {w w' wr : World} {B : Nat} {M M' : List Nat} {c : RC} {L : List Rr}
/-- what Get leaves that answers bytes -/
def GotR (c : RC) (B : Nat) (M : List Nat) (L : List Rr) (l : List Nat) (w : World) (e : Ending) (w' : World) : Prop :=
  ∃ v lv, e = .returned (.tuple #[v, .int .i64 0]) ∧ OwnB w' w.heap.size v l ∧ (∀ k, v.ownBlock = some k → k ∉ (c.lay lv L).foot) ∧ RcAt w' B M (c.lay lv L) ∧ Step w c.foot w' (c.lay lv L).foot
set_option maxHeartbeats 4000000 in
theorem rget_hit (h : RcAt w B M c) {k : Nat} {r : Rr} (hr : c.L[k]? = some r) (hm : c.most ≤ 100000) (hBw : B ≤ w.heap.size) (hM : ∀ k ∈ M, k < w.heap.size) :
    Calls Try.prog 30 #[pv c.W, .int .i64 ((r.pos : Nat) : Int)] w (GotR c B M (trimR c.most (newR r c.L)) r.b w) := by
  have hat := Lib.hid (rat_hit h hr)
  have hlen := h.few
  obtain ⟨p, hp⟩ : ∃ p, r.pos = p := ⟨_, rfl⟩
  have hA := h.read ((Below.refl w.heap.size w).alloc (Nat.le_refl _) (Obj.cells #[.int .i64 (p : Int), .slice none 0 0, .bool false, .bool false] 88))
  obtain ⟨g, cap, hlv, hcap, hk, r0, r1, r2, r3⟩ := hA.get hr
  have c2 : (w.alloc (Obj.cells #[.int .i64 (p : Int), .slice none 0 0, .bool false, .bool false] 88)).cell? ⟨c.W, 2, none⟩ = some c.lv := hA.hdr.cell rfl
  obtain ⟨nL, hnL⟩ : ∃ nL, c.L.length = nL := ⟨_, rfl⟩
  obtain ⟨m, hmm⟩ : ∃ m, c.most = m := ⟨_, rfl⟩
  have hwr := Lib.hid (h.rows r (List.mem_of_getElem? hr))
  obtain ⟨gv, cv, hv, hcv, hvl, _⟩ := hwr.out
  rw [hv] at r1
  rw [hlv, hnL] at c2
  rw [hmm] at hm
  rw [hnL] at hlen hk hcap
  rw [hp] at r0 hat ⊢
  have hh := Lib.hid h
  have hr' := Lib.hid hr
  have hp' := Lib.hid hp
  have hv' := Lib.hid hv
  have hnL' := Lib.hid hnL
  have hmm' := Lib.hid hmm
  clear h hA hr hlv hnL hmm hp hv
  unfold pv at hat ⊢
  go_enter Try.func30, Try.ntmps30
  go_upto_region 9 with (go_at_call 47; refine hat.out.mono ?_; rintro e w1 ⟨rfl, rfl⟩)
  have hxc := Lib.hid (show r.cells.toArray = #[.int .i64 (p : Int), .slice (some ⟨gv, 0, none⟩) 128 cv, .bool r.dirty, .bool r.pin] by unfold Rr.cells; rw [hp'.out, hv'.out])
  have BB := Lib.hid ((Below.refl w.heap.size w).alloc (Nat.le_refl _) (Obj.cells #[.int .i64 (p : Int), .slice (some ⟨gv, 0, none⟩) 128 cv, .bool r.dirty, .bool r.pin] 88))
  have hnew := held_new w r
  rw [hxc.out] at hnew
  have sB : (w.alloc (Obj.cells #[.int .i64 (p : Int), .slice (some ⟨gv, 0, none⟩) 128 cv, .bool r.dirty, .bool r.pin] 88)).heap.size = w.heap.size + 1 := size_alloc _ _
  obtain ⟨wB, hwB⟩ : ∃ wB, w.alloc (Obj.cells #[.int .i64 (p : Int), .slice (some ⟨gv, 0, none⟩) 128 cv, .bool r.dirty, .bool r.pin] 88) = wB := ⟨_, rfl⟩
  rw [hwB] at BB hnew sB ⊢
  have RB := Lib.hid (hh.out.read BB.out)
  have KB := Lib.hid (hwr.out.step (Step.of_below BB.out (c.foot ++ M)))
  have b0 : wB.cell? ⟨w.heap.size, 0, none⟩ = some (.int .i64 (p : Int)) := by have := hnew 0 _ rfl; rw [hp'.out] at this; exact this
  have b1 : wB.cell? ⟨w.heap.size, 1, none⟩ = some (.slice (some ⟨gv, 0, none⟩) 128 cv) := by have := hnew 1 _ rfl; rw [hv'.out, Nat.zero_add] at this; exact this
  have b2 : wB.cell? ⟨w.heap.size, 2, none⟩ = some (.bool r.dirty) := by have := hnew 2 _ rfl; rw [Nat.zero_add] at this; exact this
  have b3 : wB.cell? ⟨w.heap.size, 3, none⟩ = some (.bool r.pin) := by have := hnew 3 _ rfl; rw [Nat.zero_add] at this; exact this
  have b1' := Lib.hid b1
  have OB := Lib.hid (show Off wB c.foot w.heap.size from ⟨fun e => by have := hh.out.lt _ e; omega, by omega⟩)
  clear hnew hwB r0 r1 r2 r3 c2 hat
  have hnw := Lib.hid (newest_r RB.out r KB.out (hh.out.low r (List.mem_of_getElem? hr'.out)) (Nat.le_trans hBw BB.out.size) (fun k hk => Nat.lt_of_lt_of_le (hM k hk) BB.out.size))
  rw [hxc.out] at hnw
  obtain ⟨L1, hL1⟩ : ∃ L1, newR r c.L = L1 := ⟨_, rfl⟩
  rw [hL1] at hnw
  have hL1' := Lib.hid hL1
  unfold pv at hnw
  clear hL1
  go_upto_region 10 with (go_at_call 60; refine hnw.out.mono ?_; rintro e w2 ⟨rfl, v2, hR2, hS2⟩; have R2 := Lib.hid hR2; have S2 := Lib.hid hS2; clear hR2 hS2)
  have d2 : w2.cell? ⟨c.W, 2, none⟩ = some v2 := R2.out.hdr.cell rfl
  have d1 : w2.cell? ⟨c.W, 1, none⟩ = some (.int .i64 ((c.most : Nat) : Int)) := R2.out.hdr.cell rfl
  rw [hmm'.out] at d1
  have hn2 : L1.length ≤ 2048 := R2.out.few
  obtain ⟨n2, hn2e⟩ : ∃ n2, L1.length = n2 := ⟨_, rfl⟩
  obtain ⟨ap2, cap2, hv2⟩ : ∃ ap cap, v2 = .slice ap n2 cap := by
    rw [← hn2e]
    rcases R2.out.form with ⟨e, e0⟩ | ⟨g, cap, e, _⟩
    · have e0' : L1 = [] := e0
      exact ⟨none, 0, by rw [e0']; exact e⟩
    · exact ⟨_, _, e⟩
  have hv2' := Lib.hid hv2
  rw [hv2] at d2
  rw [hn2e] at hn2
  have hn2' := Lib.hid hn2e
  have hsz2 : wB.heap.size ≤ w2.heap.size := S2.out.size
  have hdr := Lib.hid (drop_r (R2.out.read (below_drewN w2 1)) ((n2 : Int) - (m : Int)) (by omega) (by have := BB.out.size; show B ≤ w2.heap.size; omega) (fun k hk => by have := hM k hk; have := BB.out.size; show k < w2.heap.size; omega))
  rw [show ((n2 : Int) - (m : Int)).toNat = n2 - m by omega] at hdr
  unfold pv at hdr
  have hF2 := Lib.hid (S2.out.off OB.out)
  obtain ⟨L2, hL2⟩ : ∃ L2, dropR L1 (n2 - m) = L2 := ⟨_, rfl⟩
  have hL2' := Lib.hid hL2
  change Hid (Calls _ _ _ _ fun e w' => e = .returned (.int .i64 ((goneR L1 (n2 - m) : Nat) : Int)) ∧ LaidR (c.lay v2 L1) B M (dropR L1 (n2 - m)) (w2.drewN 1) w') at hdr
  rw [hL2] at hdr
  clear hv2 hn2e hL2 b0 b1 b2 b3 hnw
  go_still_tail 11, (by kernel_rfl)
  change wpList _ _ _ _ _ (w2.drewN 1)
  have hcl : ∀ w3 v3, RcAt w3 B M ((c.lay v2 L1).lay v3 L2) → Step (w2.drewN 1) (c.lay v2 L1).foot w3 ((c.lay v2 L1).lay v3 L2).foot → Step w c.foot w3 (c.lay v3 L2).foot ∧ w3.cell? ⟨w.heap.size, 1, none⟩ = some (.slice (some ⟨gv, 0, none⟩) 128 cv) ∧ BAt w3 (some ⟨gv, 0, none⟩) r.b := fun w3 v3 hR3 hS3 => by
    have hS23 : Step w2 (c.lay v2 L1).foot w3 (c.lay v3 L2).foot := (Step.of_below (below_drewN w2 1) _).trans hS3
    have hSB : Step wB c.foot w3 (c.lay v3 L2).foot := S2.out.trans hS23
    refine ⟨(Step.of_below BB.out c.foot).trans hSB, ?_, ?_⟩
    · rw [World.cell?_of_block (w := wB) (a := ⟨w.heap.size, 1, none⟩) (hSB.same OB.out)]
      exact b1'.out
    · obtain ⟨g', c', e', _, _, hb, _⟩ := KB.out.step (hSB.beside M)
      rw [hv'.out] at e'
      cases e'
      exact hb
  have hcl' := Lib.hid hcl
  clear hcl
  go_wp2_with (first
    | (go_at_call 36; refine hdr.out.mono ?_; rintro e w3 ⟨rfl, v3, hR3, hS3⟩; obtain ⟨hT, x1, xb⟩ := hcl'.out w3 v3 hR3 hS3; have R3 := Lib.hid hR3; have T3 := Lib.hid hT; have xb' := Lib.hid xb; clear hR3 hS3 hT xb)
    | (at_builtin; refine wpList_append_bytes rfl (.const (.slice none 0 0)) (.tmp 54) rfl w3.heap.size (.slice none 0 0) [] rfl (OwnB.nil _ _) (some ⟨gv, 0, none⟩) 128 cv r.b rfl hvl xb'.out (by intro h; cases h) (by simp) (Nat.le_refl _) ?_; intro v5 w5 ho5 hg5 hb5))
  go_ret2
  have hz3 := T3.out.size
  have hL : L2 = trimR c.most (newR r c.L) := by unfold trimR; rw [hL1'.out, hn2'.out, hmm'.out, hL2'.out]
  refine ⟨v5, v3, rfl, OwnB.lower (by simpa using ho5.out) hz3, fun k hk e => ?_, ?_, ?_⟩
  · have h1 := (OwnB.lt ho5.out k hk).1
    rw [← hL] at e
    have h2 := R3.out.lt k e
    omega
  · rw [← hL]; exact R3.out.read hb5
  · rw [← hL]; exact T3.out.trans (Step.of_below hb5 _)
end
end Go.Proofs.Ytnfaeejeipbciaa
end

section
set_option linter.unusedVariables false
set_option linter.unusedSimpArgs false
namespace Go.Proofs.Ytnfaeejeipbciaa
open Go.RowKit BigFrame

structure RLies where
  g : Nat
  c : Nat
  vW : Value
  vK : Value
  vL : Value
  V : Nat → Value
  U : Nat → Value
def RLies.foot (A : RLies) (G : Nat) : List Nat := G :: A.g :: A.vL.ownBlock.toList
def leftN (d : Dk) : Int := bif d.set then (d.after : Int) else -1
def rcells (A : RLies) (d : Dk) : Array Value := #[.slice (some ⟨A.g, 0, none⟩) d.n A.c, A.vW, .bool (!d.on), .int .i64 (leftN d), .int .i64 ((d.flushes : Nat) : Int), A.vK, A.vL]
/-- n places that may be written -/
def Slots (w : World) (g n : Nat) (V : Nat → Value) : Prop := ∀ i, i < n → w.cell? ⟨g, i, none⟩ = some (V i) ∧ w.frozen? ⟨g, i, none⟩ = false
/-- what waits -/
def WaitsAt (w : World) (M : List Nat) (G : Nat) (v : Value) (ws : List (Nat × List Nat)) (U : Nat → Value) : Prop :=
  ∃ a cap, v = .slice a ws.length cap ∧ ws.length ≤ cap ∧ (a = none → cap = 0) ∧ (ws.length = 0 ∨ ∃ b, a = some ⟨b, 0, none⟩ ∧ Off w M b ∧
    ∀ j, j < ws.length → w.cell? ⟨b, j * 2, none⟩ = some (.int .i64 (((wtAt ws j).1 : Nat) : Int)) ∧ w.cell? ⟨b, j * 2 + 1, none⟩ = some (U j) ∧ Kept w M G (U j) (wtAt ws j).2)
def KeepAt (w : World) (M : List Nat) (v : Value) (K : List Bool) : Prop :=
  ∃ a cap, v = .slice a K.length cap ∧ K.length ≤ cap ∧ KAt w a K ∧ ∀ b o, 0 < K.length → a = some ⟨b, o, none⟩ → Off w M b
theorem Slots.block {w w' : World} {g n : Nat} {V : Nat → Value} (h : Slots w g n V) (e : w'.heap[g]? = w.heap[g]?) : Slots w' g n V := fun i hi => by
  rw [World.cell?_of_block (w := w) (a := ⟨g, i, none⟩) e, World.frozen?_of_block (w := w) (a := ⟨g, i, none⟩) e]; exact h i hi
theorem WaitsAt.step {w w' : World} {M M' : List Nat} {G : Nat} {v : Value} {ws : List (Nat × List Nat)} {U : Nat → Value} (h : WaitsAt w M G v ws U) (hs : Step w M w' M') : WaitsAt w' M' G v ws U := by
  obtain ⟨a, cap, e, hc, hn, h⟩ := h
  refine ⟨a, cap, e, hc, hn, h.imp id ?_⟩
  rintro ⟨b, rfl, ho, hx⟩
  refine ⟨b, rfl, hs.off ho, fun j hj => ?_⟩
  rw [World.cell?_of_block (w := w) (a := ⟨b, j * 2, none⟩) (hs.same ho), World.cell?_of_block (w := w) (a := ⟨b, j * 2 + 1, none⟩) (hs.same ho)]
  exact ⟨(hx j hj).1, (hx j hj).2.1, (hx j hj).2.2.step hs⟩
theorem WaitsAt.nil (w : World) (M : List Nat) (G : Nat) (U : Nat → Value) : WaitsAt w M G (.slice none 0 0) [] U := ⟨none, 0, rfl, Nat.le_refl _, fun _ => rfl, .inl rfl⟩
theorem KeepAt.step {w w' : World} {M M' : List Nat} {v : Value} {K : List Bool} (h : KeepAt w M v K) (hs : Step w M w' M') : KeepAt w' M' v K := by
  obtain ⟨a, cap, e, hc, hx, ho⟩ := h
  refine ⟨a, cap, e, hc, ?_, fun b o h0 e => hs.off (ho b o h0 e)⟩
  rcases hx with h | ⟨b, o, rfl, hx⟩
  · exact .inl h
  · refine .inr ⟨b, o, rfl, fun k hk => ?_⟩
    rw [World.cell?_of_block (w := w) (a := ⟨b, o + k, none⟩) (hs.same (ho b o (by omega) rfl))]
    exact hx k hk

structure IsRf (w : World) (B : Nat) (G : Nat) (A : RLies) (R : List Nat) (d : Dk) : Prop where
  fine : d.Fine
  hdr : w.heap[G]? = some (.cells (rcells A d) 44 (0, 0))
  slots : Slots w A.g d.n A.V
  room : d.n ≤ A.c
  rows : ∀ i, i < d.n → Kept w (A.foot G ++ R) G (A.V i) (d.firm i)
  waits : WaitsAt w (A.foot G ++ R) G A.vW d.waits A.U
  keep : d.set = true → KeepAt w (A.foot G ++ R) A.vK d.keep
  log : w.ownsRow B 3 1 A.vL d.log.length (icells d.log)
  apart : (A.foot G).Nodup
  over : ∀ k ∈ A.foot G, B ≤ k ∧ Off w R k
  under : ∀ k ∈ R, k < w.heap.size
theorem RLies.mem_G (G : Nat) (A : RLies) : G ∈ A.foot G := by simp [RLies.foot]
theorem RLies.mem_g (G : Nat) (A : RLies) : A.g ∈ A.foot G := by simp [RLies.foot]
theorem RLies.mem_l {G k : Nat} {A : RLies} (h : A.vL.ownBlock = some k) : k ∈ A.foot G := by simp [RLies.foot, h]
theorem IsRf.cell {w : World} {B G : Nat} {A : RLies} {R : List Nat} {d : Dk} (h : IsRf w B G A R d) (k : Nat) : w.cell? ⟨G, k, none⟩ = (rcells A d)[k]? := cell_of_row _ _ _ _ _ _ h.hdr
theorem IsRf.frozen {w : World} {B G : Nat} {A : RLies} {R : List Nat} {d : Dk} (h : IsRf w B G A R d) (k : Nat) : w.frozen? ⟨G, k, none⟩ = false := frozen_of_row _ _ _ _ _ h.hdr
theorem IsRf.gne {w : World} {B G : Nat} {A : RLies} {R : List Nat} {d : Dk} (h : IsRf w B G A R d) : A.g ≠ G ∧ ∀ k, A.vL.ownBlock = some k → k ≠ G ∧ k ≠ A.g := by
  have := h.apart
  simp only [RLies.foot, List.nodup_cons, List.mem_cons, not_or] at this
  exact ⟨fun e => this.1.1 e.symm, fun k hk => ⟨fun e => this.1.2 (by simp [← e, hk]), fun e => this.2.1 (by simp [← e, hk])⟩⟩
/-- what is beside turns -/
theorem IsRf.other {w w' : World} {B G : Nat} {A : RLies} {R R' : List Nat} {d : Dk} (h : IsRf w B G A R d) (hs : Step w R w' R') (hR : ∀ k ∈ R', k < w'.heap.size) : IsRf w' B G A R' d where
  fine := h.fine
  hdr := by rw [hs.same (h.over G (RLies.mem_G G A)).2]; exact h.hdr
  slots := h.slots.block (hs.same (h.over A.g (RLies.mem_g G A)).2)
  room := h.room
  rows := fun i hi => (h.rows i hi).step ⟨hs.os, hs.tape, hs.output, hs.size, fun k hk hf => hs.block k hk (fun e => hf (List.mem_append_right _ e)), fun k hk => by
    rcases List.mem_append.1 hk with hk | hk
    · exact .inl (List.mem_append_left _ hk)
    · exact (hs.foot k hk).imp (List.mem_append_right _) id⟩
  waits := h.waits.step ⟨hs.os, hs.tape, hs.output, hs.size, fun k hk hf => hs.block k hk (fun e => hf (List.mem_append_right _ e)), fun k hk => by
    rcases List.mem_append.1 hk with hk | hk
    · exact .inl (List.mem_append_left _ hk)
    · exact (hs.foot k hk).imp (List.mem_append_right _) id⟩
  keep := fun e => (h.keep e).step ⟨hs.os, hs.tape, hs.output, hs.size, fun k hk hf => hs.block k hk (fun e => hf (List.mem_append_right _ e)), fun k hk => by
    rcases List.mem_append.1 hk with hk | hk
    · exact .inl (List.mem_append_left _ hk)
    · exact (hs.foot k hk).imp (List.mem_append_right _) id⟩
  log := ownsRow_block h.log (fun k hk => hs.same (h.over k (RLies.mem_l hk)).2)
  apart := h.apart
  over := fun k hk => ⟨(h.over k hk).1, hs.off (h.over k hk).2⟩
  under := hR
theorem IsRf.read {w w' : World} {B G : Nat} {A : RLies} {R : List Nat} {d : Dk} (h : IsRf w B G A R d) (hb : Below w.heap.size w w') : IsRf w' B G A R d :=
  h.other (.of_below hb R) (fun k hk => Nat.lt_of_lt_of_le (h.under k hk) hb.size)
theorem IsRf.drewN {w : World} {B G m : Nat} {A : RLies} {R : List Nat} {d : Dk} (h : IsRf w B G A R d) : IsRf (w.drewN m) B G A R d := h.read (below_drewN w m)
/-- its own cells are written, and nothing else -/
theorem IsRf.head {w w' : World} {B G : Nat} {A A' : RLies} {R : List Nat} {d d' : Dk} (h : IsRf w B G A R d) (hdr : w'.heap[G]? = some (.cells (rcells A' d') 44 (0, 0)))
    (hst : Step w (A.foot G) w' (A.foot G)) (hb : ∀ k, k ≠ G → w'.heap[k]? = w.heap[k]?) (hg : A'.g = A.g) (hc : A'.c = A.c) (hV : A'.V = A.V) (hL : A'.vL = A.vL) (hlog : d'.log = d.log)
    (hW : WaitsAt w' (A.foot G ++ R) G A'.vW d'.waits A'.U) (hK : d'.set = true → KeepAt w' (A.foot G ++ R) A'.vK d'.keep)
    (fine : d'.Fine) (hn : d'.n = d.n) (hfi : ∀ i, i < d.n → d'.firm i = d.firm i) : IsRf w' B G A' R d' := by
  have hft : A'.foot G = A.foot G := by simp [RLies.foot, hg, hL]
  have hsx := hst.beside R
  refine ⟨fine, hdr, ?_, by rw [hn, hc]; exact h.room, ?_, ?_, ?_, ?_, by rw [hft]; exact h.apart, ?_, fun k hk => Nat.lt_of_lt_of_le (h.under k hk) hst.size⟩
  · rw [hg, hn, hV]; exact h.slots.block (hb _ h.gne.1)
  · intro i hi
    rw [hn] at hi
    rw [hft, hV, hfi i hi]; exact (h.rows i hi).step hsx
  · rw [hft]; exact hW
  · rw [hft]; exact hK
  · rw [hL, hlog]; exact ownsRow_block h.log (fun k hk => hb k (h.gne.2 k hk).1)
  · intro k hk
    rw [hft] at hk
    exact ⟨(h.over k hk).1, (h.over k hk).2.1, Nat.lt_of_lt_of_le (h.over k hk).2.2 hst.size⟩
/-- a row is laid in another's place -/
theorem IsRf.lay {w : World} {B G i : Nat} {A : RLies} {R : List Nat} {d : Dk} {x : Value} {X : List Nat} (h : IsRf w B G A R d) (hi : i < d.n) (hx : Kept w (A.foot G ++ R) G x X) (f' : Nat → List Nat) (hf : ∀ j, j < d.n → f' j = updF d.firm i X j) :
    IsRf (w.setCell ⟨A.g, i, none⟩ x) B G { A with V := fun j => if j = i then x else A.V j } R (d.withFirm f') ∧ Step w (A.foot G) (w.setCell ⟨A.g, i, none⟩ x) (A.foot G) := by
  have hst : Step w (A.foot G) (w.setCell ⟨A.g, i, none⟩ x) (A.foot G) := (Step.refl _ _).setCell _ _ _ (RLies.mem_g G A)
  have hsx := hst.beside R
  have hb : ∀ k, k ≠ A.g → (w.setCell ⟨A.g, i, none⟩ x).heap[k]? = w.heap[k]? := fun k hk => Below.heap_setCell _ _ _ _ hk
  have hX : X.length = 128 := by obtain ⟨_, _, _, _, e, _⟩ := hx; exact e
  refine ⟨⟨⟨h.fine.n, fun j hj => ?_, h.fine.waits, h.fine.many, h.fine.logs, h.fine.flush, h.fine.keeps, h.fine.aft⟩, by rw [hb _ (Ne.symm h.gne.1)]; exact h.hdr, fun j hj => ?_, h.room, fun j hj => ?_, h.waits.step hsx, fun e => (h.keep e).step hsx,
    ownsRow_block h.log (fun k hk => hb k (h.gne.2 k hk).2), h.apart, fun k hk => ⟨(h.over k hk).1, (h.over k hk).2.1, Nat.lt_of_lt_of_le (h.over k hk).2.2 hst.size⟩, fun k hk => Nat.lt_of_lt_of_le (h.under k hk) hst.size⟩, hst⟩
  · show (f' j).length = 128
    rw [hf j hj]
    unfold updF
    split
    · exact hX
    · exact h.fine.firm j hj
  · show (w.setCell ⟨A.g, i, none⟩ x).cell? ⟨A.g, j, none⟩ = some (if j = i then x else A.V j) ∧ (w.setCell ⟨A.g, i, none⟩ x).frozen? ⟨A.g, j, none⟩ = false
    by_cases e : j = i
    · subst e
      rw [if_pos rfl]
      exact ⟨World.cell?_setCell_same _ _ _ (h.slots j hj).1, by rw [World.frozen?_setCell]; exact (h.slots j hj).2⟩
    · rw [if_neg e]
      exact ⟨by rw [World.cell?_setCell_other _ _ _ _ (by intro h; exact e (Addr.mk.inj h).2.1.symm)]; exact (h.slots j hj).1, by rw [World.frozen?_setCell]; exact (h.slots j hj).2⟩
  · show Kept _ _ G (if j = i then x else A.V j) (f' j)
    rw [hf j hj]
    by_cases e : j = i
    · subst e
      rw [if_pos rfl, updF_same]; exact hx.step hsx
    · rw [if_neg e, updF_other e]; exact (h.rows j hj).step hsx
def GivesRf (v : Value) (d' : Dk) (B G : Nat) (A : RLies) (R : List Nat) (w : World) (e : Ending) (w' : World) : Prop :=
  e = .returned v ∧ ∃ A', IsRf w' B G A' R d' ∧ Step w (A.foot G) w' (A'.foot G)
end Go.Proofs.Ytnfaeejeipbciaa
end

section
set_option linter.unusedVariables false
set_option linter.unusedSimpArgs false
namespace Go.Proofs.Ytnfaeejeipbciaa
open Go.RowKit BigFrame

theorem rboot_end {w : World} {B G : Nat} {A : RLies} {R : List Nat} {d : Dk} (h : IsRf w B G A R d) : IsRf (w.setCell ⟨G, 2, none⟩ (.bool false)) B G A R d.booted ∧ Step w (A.foot G) (w.setCell ⟨G, 2, none⟩ (.bool false)) (A.foot G) := by
  have hst : Step w (A.foot G) (w.setCell ⟨G, 2, none⟩ (.bool false)) (A.foot G) := (Step.refl _ _).setCell _ _ _ (RLies.mem_G G A)
  refine ⟨h.head (A' := A) ?_ hst (fun k hk => Below.heap_setCell _ _ _ _ hk) rfl rfl rfl rfl rfl (h.waits.step (hst.beside R)) (fun e => (h.keep e).step (hst.beside R)) h.fine.booted rfl (fun _ _ => rfl), hst⟩
  rw [heap_setCell_same _ _ _ _ _ _ h.hdr]
  simp [rcells, Dk.booted, leftN]
theorem rboot_any (w : World) (B : Nat) (G : Nat) (A : RLies) (R : List Nat) (d : Dk) (h : IsRf w B G A R d) :
    Calls Try.prog 38 #[.pointer (some ⟨G, 0, none⟩)] w (GivesRf (.int .i64 (if d.on then 19 else 0)) d.booted B G A R w) := by
  have c2 := h.cell 2
  have f2 := h.frozen 2
  obtain ⟨on, hon⟩ : ∃ on, d.on = on := ⟨_, rfl⟩
  simp only [rcells, hon, List.getElem?_toArray, List.getElem?_cons_zero, List.getElem?_cons_succ] at c2
  rw [hon]
  have h' := Lib.hid h
  have ht := Lib.hid (rboot_end h)
  cases on
  · clear h hon
    simp only [Bool.not_false] at c2
    go_enter Try.func38, Try.ntmps38
    go_wp2_with fail
    go_ret
    exact ⟨rfl, A, ht.out⟩
  · have e : d.booted = d := by unfold Dk.booted; cases d; simp only at hon; subst hon; rfl
    rw [e]
    clear h hon e
    simp only [Bool.not_true] at c2
    go_enter Try.func38, Try.ntmps38
    go_wp2_with fail
    go_ret
    exact ⟨rfl, A, h'.out, Step.refl _ _⟩
end Go.Proofs.Ytnfaeejeipbciaa
end
