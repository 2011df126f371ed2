/-
  The document's own disk: Flush.
-/
import Derived.Test.YtmaodnidodoadaaRf
namespace Go.Proofs.Ytmaodnidodoadaa
open Go.RowKit BigFrame

def RgRel (w : World) (B G : Nat) (A : RLies) (R : List Nat) (d : Dk) (g : Nat) (i : Value) (wr : World) : Prop :=
  ∃ (k : Nat) (V : Nat → Value), k + g = d.waits.length ∧ i = .int .i64 k ∧ IsRf wr B G { A with V := V } R (d.withFirm (appl d.firm (d.waits.take k))) ∧ Step w (A.foot G) wr (A.foot G)
theorem rflush_end {w w' : World} {B G : Nat} {A : RLies} {R : List Nat} {d : Dk} {f : Nat → List Nat} (h : IsRf w B G A R (d.withFirm f)) (hd : d.Fine) (hf : f = d.seen) (hm : d.flushes < 1000)
    (hdr : w'.heap[G]? = some (.cells (rcells { A with vW := .slice none 0 0 } d.flushed) 39 (0, 0))) (hst : Step w (A.foot G) w' (A.foot G)) (hb : ∀ k, k ≠ G → w'.heap[k]? = w.heap[k]?) :
    IsRf w' B G { A with vW := .slice none 0 0 } R d.flushed :=
  h.head (A' := { A with vW := .slice none 0 0 }) hdr hst hb rfl rfl rfl rfl rfl (.nil _ _ _ _) (fun e => (h.keep e).step (hst.beside R)) (hd.flushed hm) rfl (fun i _ => by rw [Dk.flushed, Dk.withFirm, hf])

theorem rflush_off (w : World) (B : Nat) (G : Nat) (A : RLies) (R : List Nat) (d : Dk) (h : IsRf w B G A R d) (hon : d.on = false) :
    Calls Try.prog 30 #[.pointer (some ⟨G, 0, none⟩)] w (GivesRf (.int .i64 4) d B G A R w) := by
  have c2 := h.cell 2
  simp only [rcells, hon, Bool.not_false, List.getElem?_toArray, List.getElem?_cons_zero, List.getElem?_cons_succ] at c2
  have h' := Lib.hid h
  clear h hon
  go_enter Try.func30, Try.ntmps30
  go_wp2_with fail
  go_ret
  exact ⟨rfl, A, h'.out, Step.refl _ _⟩
theorem rflush_fall (w : World) (B : Nat) (G : Nat) (A : RLies) (R : List Nat) (d : Dk) (h : IsRf w B G A R d) (hon : d.on = true) (hf : d.fall = true) :
    Calls Try.prog 30 #[.pointer (some ⟨G, 0, none⟩)] w (GivesRf (.int .i64 4) d.fell B G A R w) := by
  have c2 := h.cell 2
  simp only [rcells, hon, Bool.not_true, List.getElem?_toArray, List.getElem?_cons_zero, List.getElem?_cons_succ] at c2
  have h' := Lib.hid h
  have hf' := Lib.hid hf
  clear h hon hf
  go_enter Try.func30, Try.ntmps30
  go_wp2_with (go_at_call 39; refine (rfalls_any _ B G A R d h'.out).mono ?_; rw [hf'.out]; rintro e w1 ⟨rfl, A1, hD1, hS1⟩; have D1 := Lib.hid hD1; have S1 := Lib.hid hS1; clear hD1 hS1)
  go_ret
  exact ⟨rfl, A1, D1.out, S1.out⟩

set_option maxRecDepth 100000 in
set_option maxHeartbeats 4000000 in
theorem rflush_go (w : World) (B : Nat) (G : Nat) (A : RLies) (R : List Nat) (d0 : Dk) (h : IsRf w B G A R d0) (hon : d0.on = true) (hf : d0.fall = false) (hm : d0.fell.flushes < 1000) :
    Calls Try.prog 30 #[.pointer (some ⟨G, 0, none⟩)] w (GivesRf (.int .i64 0) d0.fell.flushed B G A R w) := by
  have c2 := h.cell 2
  simp only [rcells, hon, Bool.not_true, List.getElem?_toArray, List.getElem?_cons_zero, List.getElem?_cons_succ] at c2
  have h' := Lib.hid h
  have hf' := Lib.hid hf
  obtain ⟨d, hd⟩ : ∃ d, d0.fell = d := ⟨_, rfl⟩
  rw [hd] at hm ⊢
  have hd' := Lib.hid hd
  clear h hon hf hd
  go_enter Try.func30, Try.ntmps30
  go_wp2_with (go_at_call 39; refine (rfalls_any _ B G A R d0 h'.out).mono ?_; rw [hf'.out, hd'.out]; rintro e w1 ⟨rfl, A1, hD1, hS1⟩; have D1 := Lib.hid hD1; have S1 := Lib.hid hS1; clear hD1 hS1 c2)
  obtain ⟨n, hn⟩ : ∃ n, d.n = n := ⟨_, rfl⟩
  obtain ⟨nw, hnw⟩ : ∃ nw, d.waits.length = nw := ⟨_, rfl⟩
  obtain ⟨nf, hnf⟩ : ∃ nf, d.flushes = nf := ⟨_, rfl⟩
  obtain ⟨aw, cw, hvw, _⟩ := D1.out.waits
  rw [hnw] at hvw
  have hc1 := D1.out.room
  have hn1 := D1.out.fine.n
  have hm1 := D1.out.fine.many
  rw [hn] at hc1 hn1
  rw [hnw] at hm1
  have hfi := Lib.hid D1.out.fine
  have hm' := Lib.hid hm
  rw [hnf] at hm
  have hn' := Lib.hid hn
  have hnw' := Lib.hid hnw
  have hnf' := Lib.hid hnf
  have hvw' := Lib.hid hvw
  clear hn hnw hvw hnf
  go_loopg [3] nw (fun g i wr => RgRel w1 B G A1 R d g i wr)
  case atStart => exact ⟨0, A1.V, by rw [hnw'.out]; omega, rfl, (by rw [List.take_zero]; exact D1.out), Step.refl _ _⟩
  case round =>
    obtain ⟨k, V, hk, rfl, hD, hS⟩ := hrel
    have hg1 := hD.gne.1
    have c0 := hD.cell 0
    have c1 := hD.cell 1
    have c4 := hD.cell 4
    have f1 := hD.frozen 1
    have f4 := hD.frozen 4
    simp only [rcells, Dk.withFirm, hvw'.out, hn'.out, hnf'.out, List.getElem?_toArray, List.getElem?_cons_zero, List.getElem?_cons_succ] at c0 c1 c4
    have hD' := Lib.hid hD
    have hS' := Lib.hid hS
    rw [hnw'.out] at hk
    clear hD hS
    by_cases hlt : k < nw
    · obtain ⟨g, rfl⟩ : ∃ g, gk = g + 1 := ⟨gk - 1, by omega⟩
      obtain ⟨b, gv, cv, rfl, hat, hU, u1, u2, u3⟩ := IsRf.waitAt (A := { A1 with V := V }) hD'.out hvw'.out hnw'.out hlt
      obtain ⟨at', hat'⟩ : ∃ at', (wtAt d.waits k).1 = at' := ⟨_, rfl⟩
      simp only [Dk.withFirm] at hat hU u1 u2 u3
      rw [hU] at u2 u3
      rw [hat'] at u1 hat
      have u3' := Lib.hid u3
      have hat2 := Lib.hid hat'
      have hsl := hD'.out.slots at' hat
      have s1 : wr.cell? ⟨A1.g, at', none⟩ = some (V at') := hsl.1
      have s2 : wr.frozen? ⟨A1.g, at', none⟩ = false := hsl.2
      rw [hn'.out] at hat
      clear u3 hU hat' hsl
      go_wp2_with fail
      go_region
      go_wp2_with fail
      go_roundg g
      case measure => omega
      case rel =>
        have hl := IsRf.lay (hD'.out.drewN (m := 1)) (i := at') (by show at' < d.n; rw [hn'.out]; exact hat) (Kept.step u3'.out (.of_below (below_drewN wr 1) _)) (appl d.firm (d.waits.take (k + 1))) (fun j _ => by
          rw [take_succ_wt (by rw [hnw'.out]; exact hlt), appl_snoc, hat2.out]; rfl)
        exact ⟨k + 1, _, by rw [hnw'.out]; omega, by go_num, hl.1, (hS'.out.more (below_drewN wr 1)).trans hl.2⟩
    · obtain rfl : k = nw := by omega
      go_wp2_with fail
      go_ret
      have hst : Step wr (A1.foot G) ((wr.setCell ⟨G, 1, none⟩ (.slice none 0 0)).setCell ⟨G, 4, none⟩ (.int .i64 ((nf : Int) + 1))) (A1.foot G) := ((Step.refl _ _).setCell _ _ _ (RLies.mem_G G A1)).setCell _ _ _ (RLies.mem_G G A1)
      refine ⟨rfl, { A1 with V := V, vW := .slice none 0 0 }, rflush_end (A := { A1 with V := V }) hD'.out hfi.out (by rw [← hnw'.out, List.take_length]; rfl) hm'.out ?_ hst (fun k hk => by rw [Below.heap_setCell _ _ _ _ hk, Below.heap_setCell _ _ _ _ hk]), (S1.out.trans hS'.out).trans hst⟩
      rw [heap_setCell_same _ _ _ _ _ _ (heap_setCell_same _ _ _ _ _ _ hD'.out.hdr)]
      simp [rcells, Dk.flushed, Dk.withFirm, leftN, hnf'.out]
end Go.Proofs.Ytmaodnidodoadaa
