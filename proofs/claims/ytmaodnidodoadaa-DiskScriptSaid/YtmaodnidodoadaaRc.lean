/-
  The document's own disk: the power goes.
-/
import Derived.Test.YtmaodnidodoadaaRb
import Derived.Test.YtmaodnidodoadaaPx
import Derived.BigRegion
namespace Go.Proofs.Ytmaodnidodoadaa
open Go.RowKit BigFrame

def RcRel (w : World) (B G : Nat) (A : RLies) (R : List Nat) (d : Dk) (Z : Nat → Nat → List Nat) (g : Nat) (i : Value) (wr : World) : Prop :=
  ∃ (k : Nat) (V : Nat → Value), k + g = d.waits.length ∧ i = .int .i64 k ∧ IsRf wr B G { A with V := V } R (d.withFirm (Z k)) ∧ Step w (A.foot G) wr (A.foot G)
/-- one that waits -/
theorem IsRf.waitAt {w : World} {B G nw k : Nat} {A : RLies} {R : List Nat} {d : Dk} {a : Option Addr} {cap : Nat} (h : IsRf w B G A R d) (hv : A.vW = .slice a nw cap) (hn : d.waits.length = nw) (hk : k < nw) :
    ∃ b gv cv, a = some ⟨b, 0, none⟩ ∧ (wtAt d.waits k).1 < d.n ∧ A.U k = .slice (some ⟨gv, 0, none⟩) 128 cv ∧ w.cell? ⟨b, k * 2, none⟩ = some (.int .i64 (((wtAt d.waits k).1 : Nat) : Int)) ∧ w.cell? ⟨b, k * 2 + 1, none⟩ = some (A.U k) ∧ Kept w (A.foot G ++ R) G (A.U k) (wtAt d.waits k).2 := by
  subst hn
  obtain ⟨a', cap', e, _, _, h0⟩ := h.waits
  rw [hv] at e
  cases e
  rcases h0 with h0 | ⟨b, rfl, _, hx⟩
  · omega
  · obtain ⟨h1, h2, h3⟩ := hx k hk
    obtain ⟨gv, cv, e, _⟩ := id h3
    exact ⟨b, gv, cv, rfl, (h.fine.waits _ (wtAt_mem hk)).1, e, h1, h2, h3⟩
theorem rcrash_end {w w' : World} {B G : Nat} {A : RLies} {R : List Nat} {d : Dk} {K : List Bool} {f : Nat → List Nat} (h : IsRf w B G A R (d.withFirm f)) (hd : d.Fine) (hf : f = appl d.firm (keptN K d.waits d.waits.length))
    (hdr : w'.heap[G]? = some (.cells (rcells { A with vW := .slice none 0 0 } (d.crashed K)) 39 (0, 0))) (hst : Step w (A.foot G) w' (A.foot G)) (hb : ∀ k, k ≠ G → w'.heap[k]? = w.heap[k]?) :
    IsRf w' B G { A with vW := .slice none 0 0 } R (d.crashed K) :=
  h.head (A' := { A with vW := .slice none 0 0 }) hdr hst hb rfl rfl rfl rfl rfl (.nil _ _ _ _) (fun e => by cases e) (hd.crashed K) rfl (fun i _ => by rw [Dk.crashed, Dk.withFirm, hf])

set_option maxRecDepth 100000 in
set_option maxHeartbeats 4000000 in
theorem rcrash_any (w : World) (B : Nat) (G : Nat) (A : RLies) (R : List Nat) (d : Dk) (h : IsRf w B G A R d) (ka : Option Addr) (nk kcap : Nat) (K : List Bool) (hK : K.length = nk) (hkb : nk ≤ 1000) (hka : KeepAt w (A.foot G ++ R) (.slice ka nk kcap) K) :
    Calls Try.prog 33 #[.pointer (some ⟨G, 0, none⟩), .slice ka nk kcap] w (GivesRf (.tuple #[]) (d.crashed K) B G A R w) := by
  obtain ⟨n, hn⟩ : ∃ n, d.n = n := ⟨_, rfl⟩
  obtain ⟨nw, hnw⟩ : ∃ nw, d.waits.length = nw := ⟨_, rfl⟩
  obtain ⟨aw, cw, hvw, _⟩ := h.waits
  rw [hnw] at hvw
  have hc1 := h.room
  have hn1 := h.fine.n
  have hm1 := h.fine.many
  rw [hn] at hc1 hn1
  rw [hnw] at hm1
  have h' := Lib.hid h
  have hf' := Lib.hid h.fine
  have hK' := Lib.hid hK
  have hka' := Lib.hid hka
  have hn' := Lib.hid hn
  have hnw' := Lib.hid hnw
  have hvw' := Lib.hid hvw
  clear h hK hka hn hnw hvw
  go_enter Try.func33, Try.ntmps33
  go_wp2_with fail
  go_loopg [4] nw (fun g i wr => RcRel w B G A R d (fun k => appl d.firm (keptN K d.waits k)) g i wr)
  case atStart => exact ⟨0, A.V, by rw [hnw'.out]; omega, rfl, h'.out, Step.refl _ _⟩
  case round =>
    obtain ⟨k, V, hk, rfl, hD, hS⟩ := hrel
    have hg1 := hD.gne.1
    have c0 := hD.cell 0
    have c1 := hD.cell 1
    have c2 := hD.cell 2
    have c3 := hD.cell 3
    have f1 := hD.frozen 1
    have f2 := hD.frozen 2
    have f3 := hD.frozen 3
    simp only [rcells, Dk.withFirm, hvw'.out, hn'.out, List.getElem?_toArray, List.getElem?_cons_zero, List.getElem?_cons_succ] at c0 c1 c2 c3
    have hD' := Lib.hid hD
    have hS' := Lib.hid hS
    rw [hnw'.out] at hk
    clear hD hS
    by_cases hlt : k < nw
    · obtain ⟨g, rfl⟩ : ∃ g, gk = g + 1 := ⟨gk - 1, by omega⟩
      by_cases hnk : nk = 0
      · subst hnk
        go_wp2_with fail
        go_roundg g
        case measure => omega
        case rel =>
          refine ⟨k + 1, V, by rw [hnw'.out]; omega, by go_num, ?_, hS'.out⟩
          have he : keptN K d.waits (k + 1) = keptN K d.waits k := by rw [keptN, show keepAt K k = false by simp [keepAt, hK'.out]]; simp
          show IsRf _ _ _ _ _ (d.withFirm (appl d.firm (keptN K d.waits (k + 1))))
          rw [he]
          exact hD'.out
      · have hq : k % nk < nk := Nat.mod_lt _ (by omega)
        have hq0 : (0 : Int) ≤ (k : Int) % (nk : Int) := by omega
        have hq1 : (k : Int) % (nk : Int) < (nk : Int) := by omega
        have hkr := hka'.out.step (hS'.out.beside R)
        obtain ⟨kb, ko, rfl, hkc2⟩ : ∃ kb ko, ka = some ⟨kb, ko, none⟩ ∧ wr.cell? ⟨kb, ko + k % nk, none⟩ = some (.bool (K.getD (k % nk) false)) := by
          obtain ⟨a2, c2, e2, _, hx, _⟩ := hkr
          simp only [Value.slice.injEq] at e2
          obtain ⟨rfl, _, _⟩ := e2
          rcases hx with h | ⟨b, off, rfl, h⟩
          · have := hK'.out; omega
          · exact ⟨b, off, rfl, h (k % nk) (by rw [hK'.out]; exact hq)⟩
        have hkat := Lib.hid (show keepAt K k = K.getD (k % nk) false by rw [keepAt, hK'.out, show decide (0 < nk) = true by simp; omega]; rfl)
        obtain ⟨kq, hkq⟩ : ∃ kq, K.getD (k % nk) false = kq := ⟨_, rfl⟩
        rw [hkq] at hkc2
        have hkat2 := Lib.hid (hkat.out.trans hkq)
        clear hkq hkat hkr
        have hnk0 : 0 < nk := by omega
        cases kq
        · go_wp2_with fail
          go_roundg g
          case measure => omega
          case rel =>
            refine ⟨k + 1, V, by rw [hnw'.out]; omega, by go_num, ?_, hS'.out⟩
            have he : keptN K d.waits (k + 1) = keptN K d.waits k := by rw [keptN, hkat2.out]; simp
            show IsRf _ _ _ _ _ (d.withFirm (appl d.firm (keptN K d.waits (k + 1))))
            rw [he]
            exact hD'.out
        · obtain ⟨b, gv, cv, rfl, hat, hU, u1, u2, u3⟩ := IsRf.waitAt (A := { A with V := V }) hD'.out hvw'.out hnw'.out hlt
          obtain ⟨at', hat'⟩ : ∃ at', (wtAt d.waits k).1 = at' := ⟨_, rfl⟩
          simp only [Dk.withFirm] at hat hU u1 u2 u3
          rw [hU] at u2 u3
          rw [hat'] at u1 hat
          have u3' := Lib.hid u3
          have hat2 := Lib.hid hat'
          have hsl := hD'.out.slots at' hat
          have s1 : wr.cell? ⟨A.g, at', none⟩ = some (V at') := hsl.1
          have s2 : wr.frozen? ⟨A.g, at', none⟩ = false := hsl.2
          rw [hn'.out] at hat
          clear u3 hU hat' hsl
          go_wp2_with fail
          go_region
          go_wp2_with fail
          go_roundg g
          case measure => omega
          case rel =>
            have hl := IsRf.lay (hD'.out.drewN (m := 1)) (i := at') (by show at' < d.n; rw [hn'.out]; exact hat) (Kept.step u3'.out (.of_below (below_drewN wr 1) _)) (appl d.firm (keptN K d.waits (k + 1))) (fun j _ => by
              rw [keptN, hkat2.out, if_pos rfl, appl_snoc, hat2.out]; rfl)
            exact ⟨k + 1, _, by rw [hnw'.out]; omega, by go_num, hl.1, (hS'.out.more (below_drewN wr 1)).trans hl.2⟩
    · obtain rfl : k = nw := by omega
      go_wp2_with fail
      go_end0
      have hst : Step wr (A.foot G) (((wr.setCell ⟨G, 1, none⟩ (.slice none 0 0)).setCell ⟨G, 2, none⟩ (.bool true)).setCell ⟨G, 3, none⟩ (.int .i64 (-1))) (A.foot G) := (((Step.refl _ _).setCell _ _ _ (RLies.mem_G G A)).setCell _ _ _ (RLies.mem_G G A)).setCell _ _ _ (RLies.mem_G G A)
      refine ⟨rfl, { A with V := V, vW := .slice none 0 0 }, rcrash_end (A := { A with V := V }) hD'.out hf'.out (by rw [hnw'.out]) ?_ hst (fun k hk => by rw [Below.heap_setCell _ _ _ _ hk, Below.heap_setCell _ _ _ _ hk, Below.heap_setCell _ _ _ _ hk]), hS'.out.trans hst⟩
      rw [heap_setCell_same _ _ _ _ _ _ (heap_setCell_same _ _ _ _ _ _ (heap_setCell_same _ _ _ _ _ _ hD'.out.hdr))]
      simp [rcells, Dk.crashed, Dk.withFirm, leftN]
end Go.Proofs.Ytmaodnidodoadaa
