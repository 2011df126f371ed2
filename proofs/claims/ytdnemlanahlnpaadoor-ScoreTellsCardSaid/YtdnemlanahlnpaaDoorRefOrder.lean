/-
  The document's own order.
-/
import Derived.Test.YtdnemlanahlnpaaDoorRefOrd0
import Derived.Deep.RegionLaw
import Derived.Deep.DeepCutAuto
import Derived.Deep.CutBlock
namespace Go.Proofs.YtdnemlanahlnpaaDoor
open Go.RowKit Fl BigFrame

def RoOut (a : Option Addr) (xs : List Nat) (w : World) (k : Nat) (D : Nat → Int) (o : Value) (wr : World) : Prop :=
  OwnI wr w.heap.size o k D ∧ Places (kf xs) D k ∧ FAt wr a xs ∧ Below w.heap.size w wr
def RoRel (a : Option Addr) (xs : List Nat) (w : World) (o i : Value) (wr : World) : Prop :=
  ∃ (k : Nat) (D : Nat → Int), k ≤ xs.length ∧ i = .int .i64 k ∧ RoOut a xs w k D o wr
def RoIn (a : Option Addr) (xs : List Nat) (w : World) (k : Nat) (D : Nat → Int) (o j : Value) (wr : World) : Prop :=
  ∃ q : Nat, q ≤ k ∧ j = .int .i64 q ∧ RoOut a xs w k D o wr ∧ ∀ p, q ≤ p → p < k → kf xs k < kf xs (D p)
def RoMid (a : Option Addr) (xs : List Nat) (w : World) (k : Nat) (D : Nat → Int) (o j : Value) (wr : World) : Prop :=
  ∃ q : Nat, q ≤ k ∧ j = .int .i64 q ∧ RoOut a xs w k D o wr ∧ (∀ p, q ≤ p → p < k → kf xs k < kf xs (D p)) ∧ (q = 0 ∨ ¬ kf xs k < kf xs (D (q - 1)))
def RoPost (xs : List Nat) (w : World) (e : Ending) (w' : World) : Prop :=
  ∃ v D, e = .returned v ∧ OwnI w' w.heap.size v xs.length D ∧ Places (kf xs) D xs.length ∧ Below w.heap.size w w'
theorem RoOut.drew {a : Option Addr} {xs : List Nat} {w wr : World} {k m : Nat} {D : Nat → Int} {o : Value} (h : RoOut a xs w k D o wr) : RoOut a xs w k D o (wr.drewN m) :=
  ⟨h.1, h.2.1, h.2.2.1.drew', bl_drew' h.2.2.2⟩

set_option maxHeartbeats 2000000 in
theorem refOrder_any (a : Option Addr) (cap : Nat) (xs : List Nat) (w : World) (hx : FAt w a xs) (hl : xs.length ≤ 40) :
    Calls Tryd.prog 9 #[.slice a xs.length cap] w (RoPost xs w) := by
  have hx' := Lib.hid hx
  clear hx
  go_enter Tryd.func9, Tryd.ntmps9
  go_wp2_with fail
  go_loopw [3, 4] (fun o i wr => RoRel a xs w o i wr) (fun _ i _ => xs.length - (intOf i).toNat)
  case atStart => exact ⟨0, fun _ => 0, by omega, rfl, OwnI.nil _ _ _, ⟨fun p q _ _ h => absurd h (by omega), fun p h => absurd h (by omega)⟩, hx'.out, Below.refl _ _⟩
  case round =>
    clear hx'
    obtain ⟨k, D, hk, rfl, hR⟩ := hrel
    by_cases hlt : k < xs.length
    · obtain ⟨oa, oc, rfl, hI, hoc, hkc, hcm, hbase⟩ := hR.1.slice
      have hR' := Lib.hid hR
      have hoc' := Lib.hid hoc
      have hbase' := Lib.hid hbase
      clear hR hI hoc hbase
      go_upto_block 2 with fail
      go_cut [5] (fun j wx => RoMid a xs w k D (.slice oa k oc) j wx)
      case first =>
        go_wp2_with fail
        go_loopw [5] (fun j wq => RoIn a xs w k D (.slice oa k oc) j wq) (fun j _ => (intOf j).toNat)
        case atStart => exact ⟨k, Nat.le_refl _, rfl, hR'.out, fun p h1 h2 => by omega⟩
        case round =>
          clear hR'
          obtain ⟨q, hq, rfl, hR, hS⟩ := hrel
          have hS' := Lib.hid hS
          have hR' := Lib.hid hR
          obtain ⟨oa2, oc2, e2, hI, _⟩ := hR.1.slice
          cases e2
          cases q with
          | zero =>
            clear hS hR hI
            go_wp2_with fail
            go_big_quiet (fail)
            go_wp2_with fail
            go_meet
            exact ⟨0, by omega, rfl, hR'.out.drew, fun p h1 h2 => hS'.out p h1 h2, .inl rfl⟩
          | succ q =>
            obtain ⟨b1, o1, rfl, hX⟩ := hR.2.2.1.at hlt
            have q0 := hX.cell k hlt
            have hq2 : q < k := by omega
            have hD := hR.2.1.2 q hq2
            obtain ⟨d, hd⟩ := Int.eq_ofNat_of_zero_le hD.1
            have hdk : d < k := by omega
            have q2 := hX.cell d (by omega)
            rcases hI with hI | ⟨b2, o2, rfl, hI⟩
            · omega
            have q1 := hI q hq2
            rw [hd] at q1
            have hkk : kf xs (k : Int) = key (fl xs k) := by unfold kf; simp
            have hkd : kf xs (D q) = key (fl xs d) := by unfold kf; rw [hd]; simp
            have i1 : ((q + 1 : Nat) : Int) - 1 = (q : Int) := by omega
            have i0 : decide ((0 : Int) < ((q + 1 : Nat) : Int)) = true := by simp
            have hkk' := Lib.hid hkk
            have hkd' := Lib.hid hkd
            clear hS hR hI hX hD hd hkk hkd
            by_cases hlk : key (fl xs k) < key (fl xs d)
            · have g2 : decide (key (fl xs k) < key (fl xs d)) = true := by simpa using hlk
              have hend := Lib.hid (fun m => show RoIn (some ⟨b1, o1, none⟩) xs w k D (.slice (some ⟨b2, o2, none⟩) k oc) (.int .i64 (q : Int)) (wr.drewN m) from ⟨q, by omega, rfl, hR'.out.drew, fun p h1 h2 => by
                by_cases e : p = q
                · subst e; rw [hkk'.out, hkd'.out]; exact hlk
                · exact hS'.out p (by omega) h2⟩)
              clear hlk
              go_wp2_with fail
              go_big_quiet ((go_at_call 18; refine Calls.quiet_of_same ((refLess_any _ _ _).mono fun _ _ h => ⟨by rw [h.1, g2], h.2.symm⟩)))
              go_wp2_with fail
              exact ⟨hend.out _, by simp [intOf]⟩
            · have g2 : decide (key (fl xs k) < key (fl xs d)) = false := by simpa using hlk
              have hend := Lib.hid (fun m => show RoMid (some ⟨b1, o1, none⟩) xs w k D (.slice (some ⟨b2, o2, none⟩) k oc) (.int .i64 ((q : Int) + 1)) (wr.drewN m) from ⟨q + 1, by omega, by go_num, hR'.out.drew, fun p h1 h2 => hS'.out p h1 h2, .inr (by rw [Nat.add_sub_cancel, hkk'.out, hkd'.out]; exact hlk)⟩)
              clear hlk
              go_wp2_with fail
              go_big_quiet ((go_at_call 18; refine Calls.quiet_of_same ((refLess_any _ _ _).mono fun _ _ h => ⟨by rw [h.1, g2], h.2.symm⟩)))
              go_wp2_with fail
              go_meet
              exact hend.out _
      case rest =>
        clear hR'
        obtain ⟨q, hq, rfl, hR, hS, he⟩ := hcut
        obtain ⟨oa2, oc2, e2, hI, _⟩ := hR.1.slice
        cases e2
        have hz := Lib.hid hR.2.2.2.size
        have hPl := Lib.hid (places_put hR.2.1 hq hS he)
        have hI1 := Lib.hid (hI.less hq)
        have hBl := Lib.hid hR.2.2.2
        have hF := Lib.hid hR.2.2.1
        have key := Lib.hid (fun (v : Value) (wn : World) (h1 : OwnI wn w.heap.size v (k + 1) (putIn D k q)) (h2 : Below wc.heap.size wc wn) => show RoRel a xs w v (.int .i64 ((k : Int) + 1)) wn from
          ⟨k + 1, putIn D k q, by omega, by go_num, h1, hPl.out, hF.out.on h2 rfl, hBl.out.trans (h2.mono hz.out)⟩)
        cases oa with
        | none =>
          obtain rfl := hoc'.out rfl
          obtain rfl : k = 0 := by omega
          obtain rfl : q = 0 := by omega
          have hI3 := Lib.hid (show IntsAt wc none 0 (fun p => D (0 + p)) from .inl rfl)
          clear hR hS he hI
          go_wp2_with fail
          go_region_law (first
            | (refine step_append_ints rfl (.tmp 36) (.tmp 38) rfl wc.heap.size 0 (.slice none 0 0) D ?_ (OwnI.nil _ _ _) (some ⟨wc.heap.size, 0, none⟩) 1 1 (fun _ => (0 : Int)) ?_ ?_ ?_ ?_ ?_ ?_
               · (simp [Act.eval, Act.put])
               · (simp [Act.eval, Act.put])
               · first | exact int_new wc.drew (0 : Int) 3 | exact (int_new wc (0 : Int) 3).drew1
               · intro h; cases h
               · omega
               · (simp)
               intro v2 w2 hv2 hg2
               have O2 := Lib.hid hv2
               have L0 := ((Below.refl wc.heap.size wc).alloc (Nat.le_refl _) (Obj.cells #[.int .i64 (0 : Int)] 3)).drew
               have L2 := Lib.hid (L0.trans ((below_none hg2).mono (by simp)))
               have z2 := L2.out.size
               clear hv2 hg2 L0)
            | (refine step_append_ints rfl (.tmp 39) (.tmp 42) rfl wc.heap.size (0 + 1) v2 (joinI D 0 (fun _ => (0 : Int))) ?_ O2.out none 0 0 (fun p => D (0 + p)) ?_ (hI3.out.on' L2.out (Nat.le_refl _)) ?_ ?_ z2 ?_
               · (simp [Act.eval, Act.put])
               · (simp [Act.eval, Act.put])
               · intro h; first | (cases h; done) | rfl
               · omega
               intro v3 w3 hv3 hg3
               have O3 := Lib.hid (OwnI.last (k := 0) (q := 0) (Nat.le_refl 0) hv3)
               have L3 := Lib.hid (L2.out.trans (below_own O2.out hg3 z2))
               clear hv3 hg3))
          all_goals
            go_wp2_with fail
            exact ⟨key.out _ _ (O3.out.lower hz.out) L3.out, by simp [intOf]; omega⟩
        | some ad =>
          obtain ⟨b, rfl⟩ := hbase'.out ad rfl
          have hqo : q ≤ oc := by omega
          by_cases hqc : q = oc
          · obtain rfl : oc = k := by omega
            subst hqc
            have hI3 := Lib.hid (show IntsAt wc (some ⟨b, 0, none⟩) 0 (fun p => D (q + p)) from .inl rfl)
            clear hR hS he hI
            go_wp2_with fail
            go_region_law (first
              | (refine step_append_ints rfl (.const (.slice none 0 0)) (.tmp 35) rfl wc.heap.size 0 (.slice none 0 0) D ?_ (OwnI.nil _ _ _) (some ⟨b, 0, none⟩) q q D ?_ hI1.out.drew1 hoc'.out ?_ ?_ ?_
                 · (simp [Act.eval, Act.put])
                 · (simp [Act.eval, Act.put])
                 · omega
                 · (simp)
                 intro v1 w1 hv1 hg1
                 have O1 := Lib.hid hv1.first
                 have L1 := Lib.hid (show Below wc.heap.size wc w1 from ((Below.refl _ wc).drew).trans (below_none hg1))
                 have z1 := L1.out.size
                 clear hv1 hg1)
              | (refine step_append_ints rfl (.const (.slice none 0 0)) (.tmp 35) rfl wc.heap.size 0 (.slice none 0 0) D ?_ (OwnI.nil _ _ _) (some ⟨b, 0, none⟩) q q D ?_ ?_ hoc'.out ?_ ?_ ?_
                 · (simp [Act.eval, Act.put])
                 · (simp [Act.eval, Act.put])
                 · first | exact hI1.out.drew1.alloc (Obj.cells #[.int .i64 (q : Int)] 3) | exact (hI1.out.alloc (Obj.cells #[.int .i64 (q : Int)] 3)).drew1
                 · omega
                 · (simp)
                 intro v1 w1 hv1 hg1
                 have O1 := Lib.hid hv1.first
                 have L0 := ((Below.refl wc.heap.size wc).alloc (Nat.le_refl _) (Obj.cells #[.int .i64 (q : Int)] 3)).drew
                 have L1 := Lib.hid (L0.trans ((below_none hg1).mono (by simp)))
                 have z1 := L1.out.size
                 have S1 := Lib.hid (IntsAt.on' (int_new wc (q : Int) 3).drew1 (below_none hg1) (Nat.le_refl _))
                 clear hv1 hg1 L0)
              | (refine step_append_ints rfl (.tmp 36) (.tmp 38) rfl wc.heap.size q v1 D ?_ ?_ (some ⟨w1.heap.size, 0, none⟩) 1 1 (fun _ => (q : Int)) ?_ ?_ ?_ ?_ ?_ ?_
                 · (simp [Act.eval, Act.put])
                 · exact O1.out.alloc (Obj.cells #[.int .i64 (q : Int)] 3)
                 · (simp [Act.eval, Act.put])
                 · exact int_new w1 (q : Int) 3
                 · intro h; cases h
                 · omega
                 · (simp; omega)
                 intro v2 w2 hv2 hg2
                 have O2 := Lib.hid hv2
                 have L2 := Lib.hid ((L1.out.alloc z1 (Obj.cells #[.int .i64 (q : Int)] 3)).trans (below_own (O1.out.alloc (Obj.cells #[.int .i64 (q : Int)] 3)) hg2 (L1.out.alloc z1 (Obj.cells #[.int .i64 (q : Int)] 3)).size))
                 have z2 := L2.out.size
                 clear hv2 hg2)
              | (refine step_append_ints rfl (.tmp 36) (.tmp 38) rfl wc.heap.size q v1 D ?_ O1.out (some ⟨wc.heap.size, 0, none⟩) 1 1 (fun _ => (q : Int)) ?_ S1.out ?_ ?_ z1 ?_
                 · (simp [Act.eval, Act.put])
                 · (simp [Act.eval, Act.put])
                 · intro h; cases h
                 · omega
                 intro v2 w2 hv2 hg2
                 have O2 := Lib.hid hv2
                 have L2 := Lib.hid (L1.out.trans (below_own O1.out hg2 z1))
                 have z2 := L2.out.size
                 clear hv2 hg2)
              | (refine step_append_ints rfl (.tmp 39) (.tmp 42) rfl wc.heap.size (q + 1) v2 (joinI D q (fun _ => (q : Int))) ?_ O2.out (some ⟨b, 0, none⟩) 0 0 (fun p => D (q + p)) ?_ (hI3.out.on' L2.out (Nat.le_refl _)) ?_ ?_ z2 ?_
                 · (simp [Act.eval, Act.put])
                 · (simp [Act.eval, Act.put])
                 · intro h; first | (cases h; done) | rfl
                 · omega
                 intro v3 w3 hv3 hg3
                 have O3 := Lib.hid (OwnI.last (q := q) (Nat.le_refl q) (by rw [Nat.sub_self]; exact hv3))
                 have L3 := Lib.hid (L2.out.trans (below_own O2.out hg3 z2))
                 clear hv3 hg3))
            all_goals
              go_wp2_with fail
              exact ⟨key.out _ _ (O3.out.lower hz.out) L3.out, by simp [intOf]; omega⟩
          · have hqk : q ≤ k := hq
            have hI3 := Lib.hid (show IntsAt wc (some ⟨b, q, none⟩) (k - q) (fun p => D (q + p)) by have := hI.from hq; rwa [Nat.zero_add] at this)
            have hqc' : ¬ oc = q := by omega
            clear hR hS he hI hqc
            go_wp2_with fail
            go_region_law (first
              | (refine step_append_ints rfl (.const (.slice none 0 0)) (.tmp 35) rfl wc.heap.size 0 (.slice none 0 0) D ?_ (OwnI.nil _ _ _) (some ⟨b, 0, none⟩) q oc D ?_ hI1.out.drew1 hoc'.out ?_ ?_ ?_
                 · (simp [Act.eval, Act.put])
                 · (simp [Act.eval, Act.put])
                 · omega
                 · (simp)
                 intro v1 w1 hv1 hg1
                 have O1 := Lib.hid hv1.first
                 have L1 := Lib.hid (show Below wc.heap.size wc w1 from ((Below.refl _ wc).drew).trans (below_none hg1))
                 have z1 := L1.out.size
                 clear hv1 hg1)
              | (refine step_append_ints rfl (.const (.slice none 0 0)) (.tmp 35) rfl wc.heap.size 0 (.slice none 0 0) D ?_ (OwnI.nil _ _ _) (some ⟨b, 0, none⟩) q oc D ?_ ?_ hoc'.out ?_ ?_ ?_
                 · (simp [Act.eval, Act.put])
                 · (simp [Act.eval, Act.put])
                 · first | exact hI1.out.drew1.alloc (Obj.cells #[.int .i64 (k : Int)] 3) | exact (hI1.out.alloc (Obj.cells #[.int .i64 (k : Int)] 3)).drew1
                 · omega
                 · (simp)
                 intro v1 w1 hv1 hg1
                 have O1 := Lib.hid hv1.first
                 have L0 := ((Below.refl wc.heap.size wc).alloc (Nat.le_refl _) (Obj.cells #[.int .i64 (k : Int)] 3)).drew
                 have L1 := Lib.hid (L0.trans ((below_none hg1).mono (by simp)))
                 have z1 := L1.out.size
                 have S1 := Lib.hid (IntsAt.on' (int_new wc (k : Int) 3).drew1 (below_none hg1) (Nat.le_refl _))
                 clear hv1 hg1 L0)
              | (refine step_append_ints rfl (.tmp 36) (.tmp 38) rfl wc.heap.size q v1 D ?_ ?_ (some ⟨w1.heap.size, 0, none⟩) 1 1 (fun _ => (k : Int)) ?_ ?_ ?_ ?_ ?_ ?_
                 · (simp [Act.eval, Act.put])
                 · exact O1.out.alloc (Obj.cells #[.int .i64 (k : Int)] 3)
                 · (simp [Act.eval, Act.put])
                 · exact int_new w1 (k : Int) 3
                 · intro h; cases h
                 · omega
                 · (simp; omega)
                 intro v2 w2 hv2 hg2
                 have O2 := Lib.hid hv2
                 have L2 := Lib.hid ((L1.out.alloc z1 (Obj.cells #[.int .i64 (k : Int)] 3)).trans (below_own (O1.out.alloc (Obj.cells #[.int .i64 (k : Int)] 3)) hg2 (L1.out.alloc z1 (Obj.cells #[.int .i64 (k : Int)] 3)).size))
                 have z2 := L2.out.size
                 clear hv2 hg2)
              | (refine step_append_ints rfl (.tmp 36) (.tmp 38) rfl wc.heap.size q v1 D ?_ O1.out (some ⟨wc.heap.size, 0, none⟩) 1 1 (fun _ => (k : Int)) ?_ S1.out ?_ ?_ z1 ?_
                 · (simp [Act.eval, Act.put])
                 · (simp [Act.eval, Act.put])
                 · intro h; cases h
                 · omega
                 intro v2 w2 hv2 hg2
                 have O2 := Lib.hid hv2
                 have L2 := Lib.hid (L1.out.trans (below_own O1.out hg2 z1))
                 have z2 := L2.out.size
                 clear hv2 hg2)
              | (refine step_append_ints rfl (.tmp 39) (.tmp 42) rfl wc.heap.size (q + 1) v2 (joinI D q (fun _ => (k : Int))) ?_ O2.out (some ⟨b, q, none⟩) (k - q) (oc - q) (fun p => D (q + p)) ?_ (hI3.out.on' L2.out (Nat.le_refl _)) ?_ ?_ z2 ?_
                 · (simp [Act.eval, Act.put])
                 · (simp [Act.eval, Act.put])
                 · intro h; first | (cases h; done) | rfl
                 · omega
                 intro v3 w3 hv3 hg3
                 have O3 := Lib.hid (hv3.last hqk)
                 have L3 := Lib.hid (L2.out.trans (below_own O2.out hg3 z2))
                 clear hv3 hg3))
            all_goals
              go_wp2_with fail
              exact ⟨key.out _ _ (O3.out.lower hz.out) L3.out, by simp [intOf]; omega⟩
    · have hkn : k = xs.length := by omega
      subst hkn
      have hend := Lib.hid (show RoPost xs w (.returned _) wr from ⟨_, D, rfl, hR.1, hR.2.1, hR.2.2.2⟩)
      clear hR
      go_wp2_with fail
      go_ret
      exact hend.out
end Go.Proofs.YtdnemlanahlnpaaDoor
