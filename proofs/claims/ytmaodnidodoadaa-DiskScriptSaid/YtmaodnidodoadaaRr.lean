/-
  The document's own disk: Read.
-/
import Derived.Test.YtmaodnidodoadaaRg
import Derived.Test.YtmaodnidodoadaaRd
namespace Go.Proofs.Ytmaodnidodoadaa
open Go.RowKit BigFrame

theorem appl_last (f : Nat → List Nat) (ws : List (Nat × List Nat)) (a j : Nat) (hj : j < ws.length) (he : (wtAt ws j).1 = a) (h : ∀ i, j + 1 ≤ i → i < ws.length → (wtAt ws i).1 ≠ a) : appl f ws a = (wtAt ws j).2 := by
  have e : ws = ws.take (j + 1) ++ ws.drop (j + 1) := (List.take_append_drop _ _).symm
  rw [e, appl_append, appl_away _ _ _ (fun p hp => ?_), take_succ_wt hj, appl_snoc, he, updF_same]
  · rw [← take_succ_wt hj, ← e]
  · obtain ⟨i, hi, rfl⟩ := List.getElem_of_mem hp
    rw [List.getElem_drop]
    have hi2 : j + 1 + i < ws.length := by simp at hi; omega
    have := h (j + 1 + i) (by omega) hi2
    rwa [wtAt_get hi2] at this
theorem appl_none (f : Nat → List Nat) (ws : List (Nat × List Nat)) (a : Nat) (h : ∀ i, i < ws.length → (wtAt ws i).1 ≠ a) : appl f ws a = f a :=
  appl_away _ _ _ (fun p hp => by
    obtain ⟨i, hi, rfl⟩ := List.getElem_of_mem hp
    have := h i hi
    rwa [wtAt_get hi] at this)
theorem rread_off (w : World) (B : Nat) (G : Nat) (A : RLies) (R : List Nat) (d : Dk) (at' : Int) (h : IsRf w B G A R d) (hon : d.on = false) :
    Calls Try.prog 25 #[.pointer (some ⟨G, 0, none⟩), .int .i64 at'] w (GivesR [] 4 w) := by
  have c2 := h.cell 2
  simp only [rcells, hon, Bool.not_false, List.getElem?_toArray, List.getElem?_cons_zero, List.getElem?_cons_succ] at c2
  clear h hon
  go_enter Try.func25, Try.ntmps25
  go_wp2_with fail
  go_ret2
  exact ⟨_, rfl, OwnB.nil _ _, Below.refl _ _⟩
theorem rread_far (w : World) (B : Nat) (G : Nat) (A : RLies) (R : List Nat) (d : Dk) (at' : Int) (h : IsRf w B G A R d) (hon : d.on = true) (ha : at' < 0 ∨ (d.n : Int) ≤ at') :
    Calls Try.prog 25 #[.pointer (some ⟨G, 0, none⟩), .int .i64 at'] w (GivesR [] 2 w) := by
  have c0 := h.cell 0
  have c2 := h.cell 2
  obtain ⟨n, hn⟩ : ∃ n, d.n = n := ⟨_, rfl⟩
  simp only [rcells, hon, hn, Bool.not_true, List.getElem?_toArray, List.getElem?_cons_zero, List.getElem?_cons_succ] at c0 c2
  rw [hn] at ha
  clear h hon hn
  by_cases h0 : at' < 0
  · have t1 : decide (at' < 0) = true := by simp; omega
    go_enter Try.func25, Try.ntmps25
    go_wp2_with fail
    go_ret2
    exact ⟨_, rfl, OwnB.nil _ _, Below.refl _ _⟩
  · have t1 : decide (at' < 0) = false := by simp; omega
    have t2 : decide ((n : Int) ≤ at') = true := by simp; omega
    go_enter Try.func25, Try.ntmps25
    go_wp2_with fail
    go_ret2
    exact ⟨_, rfl, OwnB.nil _ _, Below.refl _ _⟩

def RrRel (w : World) (d : Dk) (a : Nat) (g : Nat) (i : Value) (wr : World) : Prop :=
  ∃ q : Nat, g ≤ d.waits.length ∧ i = .int .i64 ((g : Int) - 1) ∧ wr = w.drewN q ∧ ∀ j, g ≤ j → j < d.waits.length → (wtAt d.waits j).1 ≠ a
set_option maxRecDepth 100000 in
set_option maxHeartbeats 1000000 in
theorem rread_go (w : World) (B : Nat) (G : Nat) (A : RLies) (R : List Nat) (d : Dk) (a : Nat) (h : IsRf w B G A R d) (hon : d.on = true) (ha : a < d.n) :
    Calls Try.prog 25 #[.pointer (some ⟨G, 0, none⟩), .int .i64 (a : Int)] w (GivesR (d.seen a) 0 w) := by
  obtain ⟨gr, cr, hra, hrc, hrl, hrb, _⟩ := h.rows a ha
  have hsl := (h.slots a ha).1
  rw [hra] at hsl
  have c0 := h.cell 0
  have c1 := h.cell 1
  have c2 := h.cell 2
  obtain ⟨n, hn⟩ : ∃ n, d.n = n := ⟨_, rfl⟩
  obtain ⟨nw, hnw⟩ : ∃ nw, d.waits.length = nw := ⟨_, rfl⟩
  obtain ⟨aw, cw, hvw, _⟩ := h.waits
  rw [hnw] at hvw
  have hc1 := h.room
  have hn1 := h.fine.n
  have hm1 := h.fine.many
  rw [hn] at hc1 hn1 ha
  rw [hnw] at hm1
  simp only [rcells, hvw, hon, hn, Bool.not_true, List.getElem?_toArray, List.getElem?_cons_zero, List.getElem?_cons_succ] at c0 c1 c2
  have t1 : decide ((a : Int) < 0) = false := decide_eq_false (by omega)
  have t2 : decide ((n : Int) ≤ (a : Int)) = false := by simp; omega
  have h' := Lib.hid h
  have hnw' := Lib.hid hnw
  have hvw' := Lib.hid hvw
  have hrb' := Lib.hid hrb
  have hrl' := Lib.hid hrl
  clear h hon hn hnw hvw hrb hrl hra
  go_enter Try.func25, Try.ntmps25
  go_wp2_with fail
  go_loopg [6] nw (fun g i wr => RrRel w d a g i wr)
  case atStart => exact ⟨0, by rw [hnw'.out]; exact Nat.le_refl _, rfl, rfl, fun j h1 h2 => by rw [hnw'.out] at h2; omega⟩
  case round =>
    obtain ⟨q, hg, hi, rfl, hno⟩ := hrel
    rw [hnw'.out] at hg
    have hno' := Lib.hid hno
    clear hno
    rcases gk with _ | k
    · have hi2 := hi.trans (show Value.int .i64 (((0 : Nat) : Int) - 1) = .int .i64 (-1) from rfl)
      clear hi
      subst hi2
      go_wp2_with (at_builtin; refine wpList_append_bytes rfl (.const (.slice none 0 0)) (.tmp 59) rfl w.heap.size (.slice none 0 0) [] rfl (OwnB.nil _ _) (some ⟨gr, 0, none⟩) 128 cr (d.firm a) rfl hrl'.out hrb'.out (by intro h; cases h) (by simp) (Nat.le_refl _) ?_; intro v5 w5 ho5 hg5 hb5)
      go_ret2
      refine ⟨v5, rfl, ?_, (below_drewN w _).trans hb5⟩
      rw [Dk.seen, appl_none _ _ _ (fun i hi => hno'.out i (Nat.zero_le _) hi)]
      exact ho5.out
    · have hi2 := hi.trans (show Value.int .i64 (((k + 1 : Nat) : Int) - 1) = .int .i64 (k : Int) by congr 1; omega)
      clear hi
      subst hi2
      obtain ⟨b, gv, cv, rfl, hat, hU, u1, u2, u3⟩ := IsRf.waitAt h'.out hvw'.out hnw'.out (k := k) (by omega)
      obtain ⟨at', hat'⟩ : ∃ at', (wtAt d.waits k).1 = at' := ⟨_, rfl⟩
      rw [hU] at u2 u3
      rw [hat'] at u1 hat
      obtain ⟨gv', cv', hev, _, hul, hub, _⟩ := u3
      cases hev
      have hul' := Lib.hid hul
      have hub' := Lib.hid hub
      have hat2 := Lib.hid hat'
      clear hU hat' hul hub hat
      by_cases hea : at' = a
      · subst hea
        go_wp2_with (at_builtin; refine wpList_append_bytes rfl (.const (.slice none 0 0)) (.tmp 51) rfl w.heap.size (.slice none 0 0) [] rfl (OwnB.nil _ _) (some ⟨gv, 0, none⟩) 128 cv (wtAt d.waits k).2 rfl hul'.out hub'.out (by intro h; cases h) (by simp) (Nat.le_refl _) ?_; intro v5 w5 ho5 hg5 hb5)
        go_ret2
        refine ⟨v5, rfl, ?_, (below_drewN w _).trans hb5⟩
        rw [Dk.seen, appl_last _ _ _ k (by rw [hnw'.out]; omega) hat2.out (fun i h1 h2 => hno'.out i h1 h2)]
        exact ho5.out
      · have t3 : decide ((at' : Int) = (a : Int)) = false := by simp; omega
        go_wp2_with fail
        go_roundg k
        case measure => omega
        case rel =>
          refine ⟨_, by rw [hnw'.out]; omega, by go_num, rfl, fun j h1 h2 => ?_⟩
          by_cases ej : j = k
          · subst ej
            rw [hat2.out]; exact hea
          · exact hno'.out j (by omega) h2
end Go.Proofs.Ytmaodnidodoadaa
