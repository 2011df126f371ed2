/-
  Split, Target and Join.
  Last.
  Are two lists of texts the same (where they are)?
  The calls at any strings, each told by what is reckoned of it.
  none, root; one part of a path gone.
-/
import Derived.Test.YtgcodlicbdaddaaGreatDoorB13
import Derived.Deep.DeepCutAuto
import Derived.BigRegion
import Derived.Deep.RegionHeld3
import Derived.Test.YtgcodlicbdaddaaGreatDoorB11
import Derived.Test.YtgcodlicbdaddaaGreatDoorB4
import Derived.Test.YtgcodlicbdaddaaGreatDoorB10
import Derived.Test.YtgcodlicbdaddaaGreatDoorB9
import Derived.BigQuiet
import Derived.Deep.QuietTactic

section
set_option linter.unusedVariables false
set_option linter.unusedSimpArgs false
namespace Go.Proofs.YtgcodlicbdaddaaGreatDoor
open Go.RowKit BigFrame

theorem split_c2 (s : ByteArray) (m : Nat) (M : Int) (hM : M = (m : Int)) (w : World) (hm : m ≤ 1000) :
    Calls Tryz.prog 158 #[.string s, .int .i64 M] w (Gives2 (psOf (codeS m (nb s)) (nb s)) (codeS m (nb s)) w) := by
  subst hM; exact split_any s m w hm
theorem pSplit_any (s : ByteArray) (w : World) :
    Calls Tryz.prog 111 #[.string s] w (Gives2 (psOf (codeP (nb s)) (nb s)) (codeP (nb s)) w) := by
  by_cases h : (nb s).head? = some 47
  · have hc := Lib.hid (show codeP (nb s) = codeS 200 (nb s) from if_pos h)
    have hd := Lib.hid (decide_eq_true h)
    clear h
    go_enter Tryz.func111, Tryz.ntmps111
    go_wp2_with (first
      | (go_at_call 157; refine (prefix_c s _ true hd.out).mono ?_; rintro e w1 ⟨rfl, rfl⟩)
      | (go_at_call 158; refine (split_c2 s 200 _ rfl _ (by omega)).mono ?_; rintro e w1 ⟨v, rfl, ho, hb⟩; have ho' := Lib.hid ho; have hb' := Lib.hid hb; clear ho hb))
    go_ret2
    rw [hc.out]
    exact ⟨_, rfl, ho'.out, hb'.out⟩
  · have hc := Lib.hid (show codeP (nb s) = 2 from if_neg h)
    have hd := Lib.hid (decide_eq_false h)
    clear h
    go_enter Tryz.func111, Tryz.ntmps111
    go_wp2_with (go_at_call 157; refine (prefix_c s _ false hd.out).mono ?_; rintro e w1 ⟨rfl, rfl⟩)
    go_ret2
    rw [hc.out]
    exact ⟨_, rfl, .nil _ _, Below.refl _ _⟩
theorem pJoin_any (a : Option Addr) (n c : Nat) (L : List (List Nat)) (w : World) (hn : n = L.length) (hc : n ≤ c) (hx : TAt w a L) (hz : sizeL L ≤ 1000000) :
    Calls Tryz.prog 175 #[.slice a n c] w fun e w' => e = .returned (.string (strOf (joinL L))) ∧ Below w.heap.size w w' := by
  have hx' := Lib.hid hx
  have hn' := Lib.hid hn
  have hj := Lib.hid (sepJ_is L)
  obtain ⟨y, hy⟩ : ∃ y, sepJ L = y := ⟨_, rfl⟩
  rw [hy] at hj
  have hys : y.size ≤ 1000000 := by
    have := sepJ_length L
    have e : (sepJ L).size = (Lib.join (L.map fun q => q.map UInt8.ofNat) [47]).length := by unfold sepJ; show Array.size _ = _; simp
    rw [← hy, e]; omega
  have hy' := Lib.hid hy
  clear hx hn hy
  go_enter Tryz.func175, Tryz.ntmps175
  go_wp2_with (go_at_call 194; refine (sjoin_c a n c L _ hn'.out hc hx'.out hz).mono ?_; rintro e w1 ⟨rfl, hb⟩; have hb' := Lib.hid hb; clear hb; rw [hy'.out])
  go_ret
  exact ⟨by rw [← hj.out]; rfl, hb'.out⟩
/-- texts, a yes or no, and a code are told -/
def Gives3 (L : List (List Nat)) (r : Bool) (c : Int) (w : World) (e : Ending) (w' : World) : Prop := ∃ v, e = .returned (.tuple #[v, .bool r, .int .i64 c]) ∧ OwnT w' w.heap.size v L ∧ Below w.heap.size w w'
theorem pTarget_any (s : ByteArray) (w : World) :
    Calls Tryz.prog 113 #[.string s] w (Gives3 (psOf (codeS 100 (nb s)) (nb s)) (rootT (nb s)) (codeS 100 (nb s)) w) := by
  have hroot := Lib.hid (show rootT (nb s) = (decide (codeS 100 (nb s) = 0) && decide ((nb s).head? = some 47)) from rfl)
  obtain ⟨c, hc⟩ : ∃ c, codeS 100 (nb s) = c := ⟨_, rfl⟩
  have hc' := Lib.hid hc
  rw [hc] at hroot ⊢
  by_cases h : c = 0
  · obtain ⟨r, hr⟩ : ∃ r, decide ((nb s).head? = some 47) = r := ⟨_, rfl⟩
    have hr' := Lib.hid hr
    have hroot2 := Lib.hid (show rootT (nb s) = r by rw [hroot.out, decide_eq_true h, Bool.true_and, hr])
    subst h
    clear hc hr hroot
    go_enter Tryz.func113, Tryz.ntmps113
    go_wp2_with (first
      | (go_at_call 158; refine (split_c2 s 100 _ rfl _ (by omega)).mono ?_; rw [hc'.out]; rintro e w1 ⟨v, rfl, ho, hb⟩; have ho' := Lib.hid ho; have hb' := Lib.hid hb; clear ho hb)
      | (go_at_call 157; refine (prefix_c s _ r hr'.out).mono ?_; rintro e w1 ⟨rfl, rfl⟩))
    go_ret3
    rw [hroot2.out]
    exact ⟨_, rfl, ho'.out, hb'.out⟩
  · have hp := Lib.hid (show psOf c (nb s) = [] from if_neg h)
    have hroot2 := Lib.hid (show rootT (nb s) = false by rw [hroot.out, decide_eq_false h, Bool.false_and])
    have t1 : (c != 0) = true := by rw [bne_iff_ne]; exact h
    clear hc hroot
    go_enter Tryz.func113, Tryz.ntmps113
    go_wp2_with (go_at_call 158; refine (split_c2 s 100 _ rfl _ (by omega)).mono ?_; rw [hc'.out]; rintro e w1 ⟨v, rfl, ho, hb⟩; have hb' := Lib.hid hb; clear ho hb)
    go_ret3
    rw [hroot2.out, hp.out]
    exact ⟨_, rfl, .nil _ _, hb'.out⟩
end Go.Proofs.YtgcodlicbdaddaaGreatDoor
end

section
set_option linter.unusedVariables false
set_option linter.unusedSimpArgs false
namespace Go.Proofs.YtgcodlicbdaddaaGreatDoor
open Go.RowKit BigFrame

theorem blT_undrew {B : Nat} {a w : World} (h : Below B a.drew w) : Below B a w := ⟨h.os, h.tape, h.output, h.size, h.block⟩
theorem psOf_le (c : Int) {l : List Nat} {n : Nat} (hl : l.length ≤ n) : (psOf c l).length ≤ n + 1 ∧ sizeL (psOf c l) ≤ n + 1 := by
  unfold psOf
  split
  · have h1 := partsL_size l
    have h2 := sizeL_len (partsL l)
    omega
  · simp [sizeL]
theorem codeP_len {l : List Nat} (h : codeP l = 0) : l.length ≤ 200 := (codeP_zero.1 h).2.2.1
/-- two texts and a code are told -/
def GivesSS (l m : List Nat) (c : Int) (w : World) (e : Ending) (w' : World) : Prop := e = .returned (.tuple #[.string (strOf l), .string (strOf m), .int .i64 c]) ∧ Below w.heap.size w w'
theorem last_is {L : List (List Nat)} {n : Nat} (h : L.length = n + 1) : L.getLast? = some (tz L n) := by
  rw [List.getLast?_eq_getElem?, h, tz_get (by omega)]
  simp
set_option maxHeartbeats 1000000 in
theorem pLast_any (s : ByteArray) (w : World) :
    Calls Tryz.prog 144 #[.string s] w (GivesSS (headL (nb s)) (lastL (nb s)) (codeL (nb s)) w) := by
  have ho := Lib.hid (nb_octs s)
  obtain ⟨c, hc⟩ : ∃ c, codeP (nb s) = c := ⟨_, rfl⟩
  have hc' := Lib.hid hc
  by_cases h : c = 0
  · subst h
    have hp := Lib.hid (show psOf 0 (nb s) = partsL (nb s) from rfl)
    have hcl := Lib.hid (show codeL (nb s) = if partsL (nb s) = [] ∨ (partsL (nb s)).getLast? = some dots then 2 else 0 from if_pos hc)
    have hl := codeP_len hc
    have hsz := Lib.hid (psOf_le 0 hl)
    rw [hp.out] at hsz
    have hoc := Lib.hid (OctsL.parts ho.out)
    have hhd := Lib.hid (fun h : codeL (nb s) = 0 => show headL (nb s) = joinL (partsL (nb s)).dropLast ∧ lastL (nb s) = (partsL (nb s)).getLast?.getD [] from ⟨if_pos h, if_pos h⟩)
    have hno := Lib.hid (fun h : codeL (nb s) = 2 => show headL (nb s) = [] ∧ lastL (nb s) = [] from ⟨if_neg (by rw [h]; decide), if_neg (by rw [h]; decide)⟩)
    obtain ⟨L, hL⟩ : ∃ L, partsL (nb s) = L := ⟨_, rfl⟩
    have hL' := Lib.hid hL
    rw [hL] at hp hcl hsz hoc hhd
    clear hc hl hL
    by_cases h0 : L.length = 0
    · have h2 := Lib.hid (show codeL (nb s) = 2 by rw [hcl.out, if_pos (.inl (List.eq_nil_of_length_eq_zero h0))])
      go_enter Tryz.func144, Tryz.ntmps144
      go_wp2_with (go_at_call 111; refine (pSplit_any s _).mono ?_; rw [hc'.out, hp.out]; rintro e w1 ⟨v, rfl, ho1, hb⟩; have hb1 := Lib.hid hb; obtain ⟨a, cap, rfl, hT, _, hcap, hmx, _⟩ := ho1.slice; have hT1 := Lib.hid hT; rw [h0]; clear hb ho1 hT)
      go_ret3
      rw [h2.out, (hno.out h2.out).1, (hno.out h2.out).2]
      exact ⟨rfl, hb1.out⟩
    · obtain ⟨n, hn⟩ : ∃ n, L.length = n + 1 := ⟨L.length - 1, by omega⟩
      have hn' := Lib.hid hn
      have hl2 := hsz.out.1
      rw [hn] at hl2
      have hla := Lib.hid (last_is hn)
      have hs := dots_str (hoc.out _ (tz_mem (show n < L.length by omega)))
      obtain ⟨x, hx⟩ : ∃ x, strOf (tz L n) = x := ⟨_, rfl⟩
      rw [hx] at hs
      have hx' := Lib.hid hx
      clear h0 hn hx
      by_cases hd : tz L n = dots
      · rw [decide_eq_true hd] at hs
        have h2 := Lib.hid (show codeL (nb s) = 2 by rw [hcl.out, if_pos (.inr (by rw [hla.out, hd]))])
        clear hd
        go_enter Tryz.func144, Tryz.ntmps144
        go_wp2_with (go_at_call 111; refine (pSplit_any s _).mono ?_; rw [hc'.out, hp.out]; rintro e w1 ⟨v, rfl, ho1, hb⟩; have hb1 := Lib.hid hb; obtain ⟨a, cap, rfl, hT, _, hcap, hmx, _⟩ := ho1.slice; obtain ⟨b, off, rfl⟩ := hT.addr (by rw [hn'.out]; omega); have hT1 := Lib.hid hT; have c1 := hT.cell (k := n) (by rw [hn'.out]; omega); rw [hx'.out] at c1; rw [hn'.out] at hcap ⊢; clear hb ho1 hT)
        all_goals (
          go_ret3
          rw [h2.out, (hno.out h2.out).1, (hno.out h2.out).2]
          exact ⟨rfl, hb1.out⟩)
      · rw [decide_eq_false hd] at hs
        have h2 := Lib.hid (show codeL (nb s) = 0 by rw [hcl.out, if_neg (not_or.2 ⟨fun h => by have := hn'.out; rw [h] at this; simp at this, fun h => hd (by rw [hla.out] at h; exact Option.some.inj h)⟩)])
        have hhd2 := Lib.hid (hhd.out h2.out)
        have htk := Lib.hid (show L.dropLast = L.take n by rw [List.dropLast_eq_take, hn'.out]; rfl)
        have htz := Lib.hid (Nat.le_trans (sizeL_sub (List.take_sublist n L)) hsz.out.2)
        have htl := Lib.hid (show n = (L.take n).length by rw [List.length_take, hn'.out]; omega)
        clear hd
        go_enter Tryz.func144, Tryz.ntmps144
        go_wp2_with (go_at_call 111; refine (pSplit_any s _).mono ?_; rw [hc'.out, hp.out]; rintro e w1 ⟨v, rfl, ho1, hb⟩; have hb1 := Lib.hid hb; obtain ⟨a, cap, rfl, hT, hj1, hcap, hmx, hj2⟩ := ho1.slice; clear hj1 hj2; obtain ⟨b, off, rfl⟩ := hT.addr (by rw [hn'.out]; omega); have hT1 := Lib.hid hT; have c1 := hT.cell (k := n) (by rw [hn'.out]; omega); rw [hx'.out] at c1; rw [hn'.out] at hcap ⊢; clear hb ho1 hT)
        all_goals (
          have hblt := Lib.hid (World.block_lt_of_cell? _ _ c1)
          have hcap2 : n ≤ cap := by omega
          have hcap3 : (n : Int) ≤ (cap : Int) := by omega
          unfold maxLen at hmx)
        all_goals (
          go_region_held3 (fun w' => w'.cell? ⟨b, off + n, none⟩ = some (.string x)) (first | exact c1 | exact q1) (first | (go_at_call 175; refine (pJoin_any (some ⟨b, off, none⟩) n cap (L.take n) _ htl.out (by omega) (by first | exact (hT1.out.take n).drew1 | exact hT1.out.take n) (Nat.le_trans htz.out (by omega))).mono ?_; rintro e w2 ⟨rfl, hb⟩; have q1 := (hb.cell (p := ⟨b, off + n, none⟩) hblt.out).trans c1; have hb2 := Lib.hid hb; clear hb)))
        all_goals (
          go_wp2_with fail
          go_ret3
          rw [h2.out, hhd2.out.1, hhd2.out.2, htk.out, hla.out]
          exact ⟨by rw [← hx'.out]; rfl, hb1.out.trans ((blT_undrew hb2.out).mono hb1.out.size)⟩)
  · have h2 := Lib.hid (show codeL (nb s) = c by unfold codeL; rw [hc, if_neg h])
    have hno := Lib.hid (show headL (nb s) = [] ∧ lastL (nb s) = [] from ⟨if_neg (by rw [h2.out]; exact h), if_neg (by rw [h2.out]; exact h)⟩)
    have t1 : (c != 0) = true := by rw [bne_iff_ne]; exact h
    clear hc h
    go_enter Tryz.func144, Tryz.ntmps144
    go_wp2_with (go_at_call 111; refine (pSplit_any s _).mono ?_; rw [hc'.out]; rintro e w1 ⟨v, rfl, ho1, hb⟩; have hb1 := Lib.hid hb; clear hb ho1)
    go_ret3
    rw [h2.out, hno.out.1, hno.out.2]
    exact ⟨rfl, hb1.out⟩
end Go.Proofs.YtgcodlicbdaddaaGreatDoor
end

section
set_option linter.unusedVariables false
set_option linter.unusedSimpArgs false
namespace Go.Proofs.YtgcodlicbdaddaaGreatDoor
open Go.RowKit BigFrame

def SameTRel (a b : Option Addr) (L : List (List Nat)) (w : World) (i : Value) (wr : World) : Prop :=
  ∃ k : Nat, k ≤ L.length ∧ i = .int .i64 k ∧ TAt wr a L ∧ TAt wr b L ∧ Below w.heap.size w wr
theorem blT_drew {B m : Nat} {a w : World} (h : Below B a w) : Below B a (w.drewN m) := ⟨h.os, h.tape, h.output, h.size, h.block⟩
theorem sameT_any (a b : Option Addr) (c1 c2 n : Nat) (L : List (List Nat)) (w : World) (hn : n = L.length) (hl : n ≤ 1000) (ha : TAt w a L) (hb : TAt w b L) :
    Calls Tryz.prog 46 #[.slice a n c1, .slice b n c2] w fun e w' => e = .returned (.bool true) ∧ Below w.heap.size w w' := by
  have ha' := Lib.hid ha
  have hb' := Lib.hid hb
  have hn' := Lib.hid hn
  clear ha hb hn
  go_enter Tryz.func46, Tryz.ntmps46
  go_wp2_with fail
  go_loopw [5] (fun i wr => SameTRel a b L w i wr) (fun i _ => n - (intOf i).toNat)
  case atStart => exact ⟨0, by omega, rfl, ha'.out, hb'.out, Below.refl _ _⟩
  case round =>
    obtain ⟨k, hk, rfl, hA, hB, hbel⟩ := hrel
    rw [← hn'.out] at hk
    by_cases hlt : k < n
    · have hA' := hA
      have hB' := hB
      rcases hA' with h | ⟨b1, o1, rfl, h1⟩
      · rw [← hn'.out] at h; omega
      · rcases hB' with h | ⟨b2, o2, rfl, h2⟩
        · rw [← hn'.out] at h; omega
        · have q1 := h1 k (by rw [← hn'.out]; exact hlt)
          have q2 := h2 k (by rw [← hn'.out]; exact hlt)
          have hend := Lib.hid (fun m => show SameTRel (some ⟨b1, o1, none⟩) (some ⟨b2, o2, none⟩) L w (.int .i64 ((k : Int) + 1)) (World.drewN _ m) from ⟨k + 1, by rw [← hn'.out]; omega, by go_num, hA.drew, hB.drew, blT_drew hbel⟩)
          obtain ⟨x, hx⟩ : ∃ x, strOf (tz L k) = x := ⟨_, rfl⟩
          rw [hx] at q1 q2
          clear h1 h2 hA hB hbel hx
          go_wp2_with fail
          go_big_quiet (fail)
          go_wp2_with fail
          exact ⟨hend.out _, by simp [intOf]; omega⟩
    · have hbel' := Lib.hid hbel
      clear hA hB hbel
      go_wp2_with fail
      go_ret
      exact ⟨rfl, hbel'.out⟩
/-- two of one's own -/
theorem sameT_own (v u : Value) (B1 B2 : Nat) (L : List (List Nat)) (w : World) (hl : L.length ≤ 1000) (h1 : OwnT w B1 v L) (h2 : OwnT w B2 u L) :
    Calls Tryz.prog 46 #[v, u] w fun e w' => e = .returned (.bool true) ∧ Below w.heap.size w w' := by
  obtain ⟨a, c1, rfl, ha, _⟩ := h1.slice
  obtain ⟨b, c2, rfl, hb, _⟩ := h2.slice
  exact sameT_any a b c1 c2 L.length L w rfl hl ha hb
end Go.Proofs.YtgcodlicbdaddaaGreatDoor
end

section
set_option linter.unusedVariables false
set_option linter.unusedSimpArgs false
namespace Go.Proofs.YtgcodlicbdaddaaGreatDoor
open Go.RowKit BigFrame

/-- a slice and a code, its facts at hand -/
def At2 (L : List (List Nat)) (c : Int) (w : World) (e : Ending) (w' : World) : Prop :=
  ∃ a cap, e = .returned (.tuple #[.slice a L.length cap, .int .i64 c]) ∧ Hid (OwnT w' w.heap.size (.slice a L.length cap) L) ∧ Hid (TAt w' a L) ∧ Hid (L.length ≤ cap) ∧ Hid (Below w.heap.size w w')
theorem Gives2.at {L : List (List Nat)} {c : Int} {w w' : World} {e : Ending} (h : Gives2 L c w e w') : At2 L c w e w' := by
  obtain ⟨v, rfl, h1, h2⟩ := h
  obtain ⟨a, cap, rfl, h3, _, h4, _⟩ := h1.slice
  exact ⟨a, cap, rfl, h1, h3, h4, h2⟩
def At3 (L : List (List Nat)) (r : Bool) (c : Int) (w : World) (e : Ending) (w' : World) : Prop :=
  ∃ a cap, e = .returned (.tuple #[.slice a L.length cap, .bool r, .int .i64 c]) ∧ Hid (OwnT w' w.heap.size (.slice a L.length cap) L) ∧ Hid (TAt w' a L) ∧ Hid (L.length ≤ cap) ∧ Hid (Below w.heap.size w w')
theorem Gives3.at {L : List (List Nat)} {r : Bool} {c : Int} {w w' : World} {e : Ending} (h : Gives3 L r c w e w') : At3 L r c w e w' := by
  obtain ⟨v, rfl, h1, h2⟩ := h
  obtain ⟨a, cap, rfl, h3, _, h4, _⟩ := h1.slice
  exact ⟨a, cap, rfl, h1, h3, h4, h2⟩
theorem pSplit_is (s : ByteArray) (w : World) (L : List (List Nat)) (c : Int) (hc : codeP (nb s) = c) (hL : psOf c (nb s) = L) :
    Calls Tryz.prog 111 #[.string s] w (At2 L c w) := by
  subst hc; subst hL
  exact (pSplit_any s w).mono fun _ _ h => h.at
theorem pTarget_is (s : ByteArray) (w : World) (L : List (List Nat)) (r : Bool) (c : Int) (hc : codeS 100 (nb s) = c) (hr : rootT (nb s) = r) (hL : psOf c (nb s) = L) :
    Calls Tryz.prog 113 #[.string s] w (At3 L r c w) := by
  subst hc; subst hr; subst hL
  exact (pTarget_any s w).mono fun _ _ h => h.at
theorem pLast_is (s x y : ByteArray) (w : World) (c : Int) (hc : codeL (nb s) = c) (hx : strOf (headL (nb s)) = x) (hy : strOf (lastL (nb s)) = y) :
    Calls Tryz.prog 144 #[.string s] w (Tells (.tuple #[.string x, .string y, .int .i64 c]) w) := by
  subst hc; subst hx; subst hy
  exact pLast_any s w
theorem pJoin_is (a : Option Addr) (n c : Nat) (L : List (List Nat)) (x : ByteArray) (w : World) (hn : n = L.length) (hc : n ≤ c) (hx : TAt w a L) (hz : sizeL L ≤ 1000000) (he : strOf (joinL L) = x) :
    Calls Tryz.prog 175 #[.slice a n c] w (Tells (.string x) w) := by
  subst he
  exact pJoin_any a n c L w hn hc hx hz
theorem text_two (w : World) (p q : List Nat) : TAt (w.alloc (.cells #[.string (strOf p), .string (strOf q)] 9)) (some ⟨w.heap.size, 0, none⟩) [p, q] :=
  .inr ⟨w.heap.size, 0, rfl, fun k hk => by
    have hk2 : k < 2 := hk
    rw [cell_of_row _ w.heap.size _ _ _ _ (heap_alloc_new w _)]
    match k, hk2 with
    | 0, _ => rfl
    | 1, _ => rfl⟩
end Go.Proofs.YtgcodlicbdaddaaGreatDoor
end

section
set_option linter.unusedVariables false
set_option linter.unusedSimpArgs false
namespace Go.Proofs.YtgcodlicbdaddaaGreatDoor
open Go.RowKit BigFrame
set_option maxRecDepth 100000

section
variable {w : World} {B b : Nat} {A : Ad} {s : Tr}
theorem none_nil (w : World) : Calls Tryz.prog 44 #[.pointer none] w fun e w' => e = .returned (.bool true) ∧ w = w' := by
  go_enter Tryz.func44, Tryz.ntmps44
  go_wp2_with fail
  go_ret
  exact ⟨rfl, rfl⟩
theorem none_tree (h : TreeAt w B A s) : Calls Tryz.prog 44 #[.pointer (some ⟨A.t, 0, none⟩)] w fun e w' => e = .returned (.bool false) ∧ w = w' := by
  have c0 := h.maps
  have q0 := run_eql_map_nil (P := Tryz.prog) w 68 3 77 (some A.m) Tryz.underlying68
  clear h
  go_enter Tryz.func44, Tryz.ntmps44
  go_wp2_with fail
  go_ret
  exact ⟨rfl, rfl⟩
theorem root_any (h : TreeAt w B A s) (ho : Ok b s) : Calls Tryz.prog 69 #[.pointer (some ⟨A.t, 0, none⟩)] w fun e w' => e = .returned (.pointer (some ⟨A.nd 1, 0, none⟩)) ∧ w = w' := by
  have c0 := h.maps
  have hl : (Instr.lookup 68 (.map (some A.m)) (.int .i64 1) false).run Tryz.prog w = .ok (ptrO A s 1) w := h.get 1 (by omega)
  have e : ptrO A s 1 = ptrN A 1 := by unfold ptrO; rw [ho.alive]; rfl
  rw [e] at hl
  clear h
  go_enter Tryz.func69, Tryz.ntmps69
  go_wp2_with fail
  go_ret
  exact ⟨rfl, rfl⟩
theorem u8s_inj {p q : List Nat} (hp : Octs p) (hq : Octs q) (h : u8s p = u8s q) : p = q := by
  refine strOf_inj hp hq ?_
  rw [strOf_toList, strOf_toList]
  exact h
theorem same_str (p q : List Nat) : (Lit.string (u8s p)).sameKey (.string (u8s q)) = decide (u8s p = u8s q) := by
  show (u8s p == u8s q) = _
  cases h : u8s p == u8s q
  · rw [decide_eq_false (by simpa using h)]
  · rw [decide_eq_true (by simpa using h)]
theorem fnd_ents : ∀ (l : List (List Nat × Nat)) (p : List Nat), (∀ e ∈ l, Octs e.1) → Octs p → (∀ e ∈ l, e.2 ≠ 0) →
    fndL (entsL l) (.string (u8s p)) = if lookE l p = 0 then none else some (.int .i64 ((lookE l p : Nat) : Int))
  | [], p, _, _, _ => rfl
  | e :: r, p, h1, h2, h3 => by
    have ih := fnd_ents r p (fun x hx => h1 x (List.mem_cons_of_mem _ hx)) h2 (fun x hx => h3 x (List.mem_cons_of_mem _ hx))
    unfold fndL entsL at ih ⊢
    rw [List.map_cons, List.find?_cons]
    have hs : (Lit.string (u8s e.1)).sameKey (.string (u8s p)) = decide (e.1 = p) := by
      rw [same_str]
      exact decide_eq_decide.2 ⟨fun h => u8s_inj (h1 e List.mem_cons_self) h2 h, fun h => by rw [h]⟩
    simp only [hs]
    unfold lookE
    by_cases he : e.1 = p
    · rw [decide_eq_true he, if_pos he, if_neg (h3 e List.mem_cons_self)]
      rfl
    · rw [decide_eq_false he, if_neg he]
      exact ih
theorem keyS_of (p : List Nat) (h : p.length ≤ 1000000) : keyOf Tryz.prog 9 (.string (strOf p)) = some (.string (u8s p)) := by
  have hs : (strOf p).size = p.length := by simp [strOf, ByteArray.size]
  rw [WideMaps.keyOf_string_mk Tryz.underlying9 (by rw [hs]; unfold maxLen; omega)]
  rfl
theorem Ok.ent_pos {b : Nat} {s : Tr} (h : Ok b s) {i : Nat} {x : Nd} (hi : s.opt i = some x) : ∀ e ∈ x.ents, e.2 ≠ 0 := fun e he h0 => by
  obtain ⟨y, hy, _⟩ := h.ent i x hi e he
  rw [h0, h.zero] at hy
  cases hy
def StepPost (A : Ad) (q : Int × Nat) (w : World) (e : Ending) (w' : World) : Prop := e = .returned (.tuple #[if q.1 = 0 then .pointer (some ⟨A.nd q.2, 0, none⟩) else .pointer none, .int .i64 q.1]) ∧ Below w.heap.size w w'
set_option maxHeartbeats 1000000 in
theorem step_any (h : TreeAt w B A s) (ho : Ok b s) (hb : b ≤ 1000000) (i : Nat) (x : Nd) (hi : s.opt i = some x) (p : List Nat) (hp : Octs p) (hpl : p.length ≤ 1000000) :
    Calls Tryz.prog 112 #[.pointer (some ⟨A.t, 0, none⟩), .pointer (some ⟨A.nd i, 0, none⟩), .string (strOf p)] w (StepPost A (s.step i p) w) := by
  have hN := h.node i x hi
  have ck := hN.kind
  have hx := Tr.at_of hi
  by_cases hk : x.kind = 2
  · obtain ⟨eb, een, heb, hm⟩ := hN.ents.dir hk
    have ce := hN.ent
    rw [een] at ce
    have cu := hN.up
    have cm := h.maps
    have hd := dots_str hp
    have hh := Lib.hid h
    have hlt : i < 1000000000 := by have := Tr.opt_lt hi; have := ho.len.2; omega
    rw [hk] at ck
    by_cases hdd : p = dots
    · rw [decide_eq_true hdd] at hd
      by_cases hu : x.up = 0
      · have hst := Lib.hid (show s.step i p = (0, i) by unfold Tr.step; rw [hx, if_neg (by omega), if_pos hdd, if_pos hu])
        rw [hu] at cu
        clear h hN hm hx hdd
        go_enter Tryz.func112, Tryz.ntmps112
        go_wp2_with fail
        go_ret2
        rw [hst.out]
        exact ⟨rfl, Below.refl _ _⟩
      · have hst := Lib.hid (show s.step i p = (0, x.up) by unfold Tr.step; rw [hx, if_neg (by omega), if_pos hdd, if_neg hu])
        obtain ⟨y, hy, _⟩ := ho.up i x hi hu
        obtain ⟨u, hue⟩ : ∃ u, x.up = u := ⟨_, rfl⟩
        have hl := h.drew.get x.up (by have := Tr.opt_lt hy; have := ho.len.2; omega)
        rw [show ptrO A s x.up = ptrN A x.up by unfold ptrO; rw [hy]; rfl] at hl
        have t0 : (((x.up : Nat) : Int) == 0) = false := nat_beq_ne (b := 0) hu
        rw [hue] at cu hl hst t0
        have hl1 := hl
        have cm1 : w.drew.cell? ⟨A.t, 0, none⟩ = some (.map (some A.m)) := cm
        have cu1 : w.drew.cell? ⟨A.nd i, 168, none⟩ = some (.int .i64 ((u : Nat) : Int)) := cu
        clear h hN hm hx hdd hu hue hy
        go_enter Tryz.func112, Tryz.ntmps112
        go_wp2_with fail
        go_region
        go_wp2_with fail
        go_ret2
        rw [hst.out]
        exact ⟨rfl, (Below.refl _ _).drew⟩
    · rw [decide_eq_false hdd] at hd
      have hsn : s.step i p = match x.look p with | 0 => ((5 : Int), 0) | j + 1 => ((0 : Int), j + 1) := by
        unfold Tr.step
        rw [hx, if_neg (by omega), if_neg hdd]
        rfl
      have hlo := hm.look_ok law_str Tryz.underlying74 (zero_int w) (keyS_of p hpl)
      rw [fnd_ents x.ents p (fun e he => ((ho.each i x hi).names e he).octs) hp (ho.ent_pos hi)] at hlo
      cases hlk : lookE x.ents p with
      | zero =>
        have hlk2 : x.look p = 0 := hlk
        rw [hlk, if_pos rfl] at hlo
        rw [hlk2] at hsn
        have hst := Lib.hid (show s.step i p = (5, 0) from hsn)
        have hlo2 : (Instr.lookup 74 (.map (some eb)) (.string (strOf p)) true).run Tryz.prog w = .ok (.tuple #[.int .i64 0, .bool false]) w := hlo
        clear h hN hm hx hdd hsn hlo hlk hlk2
        go_enter Tryz.func112, Tryz.ntmps112
        go_wp2_with fail
        go_ret2
        rw [hst.out]
        exact ⟨rfl, Below.refl _ _⟩
      | succ j =>
        have hlk2 : x.look p = j + 1 := hlk
        rw [hlk, if_neg (by omega)] at hlo
        rw [hlk2] at hsn
        have hst := Lib.hid (show s.step i p = (0, j + 1) from hsn)
        obtain ⟨y, hy, _⟩ := ho.ent i x hi _ (look_mem hlk (by omega))
        have hl := h.get (j + 1) (by have := Tr.opt_lt hy; have := ho.len.2; omega)
        rw [show ptrO A s (j + 1) = ptrN A (j + 1) by unfold ptrO; rw [hy]; rfl] at hl
        obtain ⟨k, hk1⟩ : ∃ k, j + 1 = k := ⟨_, rfl⟩
        rw [hk1] at hlo hst hl
        have hlo2 : (Instr.lookup 74 (.map (some eb)) (.string (strOf p)) true).run Tryz.prog w = .ok (.tuple #[.int .i64 ((k : Nat) : Int), .bool true]) w := hlo
        clear h hN hm hx hdd hsn hlo hlk hlk2 hy hk1
        go_enter Tryz.func112, Tryz.ntmps112
        go_wp2_with fail
        go_ret2
        rw [hst.out]
        exact ⟨rfl, Below.refl _ _⟩
  · have t0 : (((x.kind : Nat) : Int) == 2) = false := nat_beq_ne (b := 2) hk
    have t1 : (((x.kind : Nat) : Int) != 2) = true := by rw [bne_iff_ne]; omega
    have hst := Lib.hid (show s.step i p = (7, 0) by unfold Tr.step; rw [hx, if_pos hk])
    clear h hN
    go_enter Tryz.func112, Tryz.ntmps112
    go_wp2_with fail
    go_ret2
    rw [hst.out]
    exact ⟨rfl, Below.refl _ _⟩
end
end Go.Proofs.YtgcodlicbdaddaaGreatDoor
end
