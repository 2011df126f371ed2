/-
  The calls of a space: Group, Inode, Block, Mark, Defer, Firm, Left.
-/
import Derived.Test.YtdkjmpicdkfgoaaQf
import Derived.Test.YtdkjmpicdkfgoaaQg
import Derived.Test.YtdkjmpicdkfgoaaG4

namespace Go.Proofs.Ytdkjmpicdkfgoaa
open Go.RowKit BigFrame Fl
variable {w w' : World} {F : List Nat} {s g i b : Nat} {X : Nat → List Nat} {o e : Nat}

/-- a space of a geometry that may be -/
structure Spc (w : World) (F : List Nat) (s g i b : Nat) (X : Nat → List Nat) : Prop where
  sp : Sp w F s g i b X
  ok : Ok g i b
theorem Spc.pol (h : Spc w F s g i b X) (hp : Pol o e i b) : PolAt w F s g i b X o e := by
  have := h.ok
  refine ⟨h.sp, hp, this.g1, this.g2, ?_, ?_⟩
  · rcases hp with ⟨_, rfl⟩ | ⟨_, rfl⟩
    · exact this.i1
    · have := this.b1; omega
  · rcases hp with ⟨_, rfl⟩ | ⟨_, rfl⟩
    · have := this.i2; omega
    · exact this.b2
theorem Spc.below (h : Spc w F s g i b X) (hb : Below w.heap.size w w') : Spc w' F s g i b X := ⟨h.sp.below hb, h.ok⟩
theorem Spc.drew (h : Spc w F s g i b X) (m : Nat) : Spc (w.drewN m) F s g i b X := ⟨h.sp.drew m, h.ok⟩
theorem Spc.other {G : List Nat} (h : Spc w F s g i b X) (hT : TurnF G w w') (hs : ∀ k, k ∈ G → k ∈ F ∧ k ≠ s) : Spc w' F s g i b X := ⟨h.sp.other hT hs, h.ok⟩
/-- the pool of inodes, or that of blocks -/
def polO (inodes : Bool) : Nat := if inodes then 3 else 21
def polE (i b : Nat) (inodes : Bool) : Nat := if inodes then i else b
theorem polIs (i b : Nat) (inodes : Bool) : Pol (polO inodes) (polE i b inodes) i b := by cases inodes <;> simp [Pol, polO, polE]
/-- the group that is best -/
def groupI (g i b : Nat) (X : Nat → List Nat) (near : Int) (inodes : Bool) : Int := bestI (kf X (polO inodes) (polE i b inodes) near) g

theorem group_nil (near : Int) (q : Bool) (w : World) : Calls Try.prog 13 #[.pointer none, .int .i64 near, .bool q] w (fun e w' => e = .returned (.int .i64 0) ∧ w = w') := by
  go_enter Try.func13, Try.ntmps13
  go_wp2_with fail
  go_ret
  exact ⟨rfl, rfl⟩
set_option maxHeartbeats 400000 in
theorem group_c (near : Int) (q : Bool) (r : Int) (h : Spc w F s g i b X) (hr : groupI g i b X near q = r) :
    Calls Try.prog 13 #[.pointer (some ⟨s, 0, none⟩), .int .i64 near, .bool q] w (Tells (.int .i64 r) w) := by
  subst hr
  have hP := Lib.hid (h.pol (polIs i b q))
  clear h
  unfold groupI
  cases q
  · go_enter Try.func13, Try.ntmps13
    go_wp2_with (go_at_call 41; refine (best_c near hP.out).mono ?_; rintro e1 w1 ⟨rfl, hb1⟩; have B1 := Lib.hid hb1; clear hb1)
    go_ret
    exact ⟨rfl, B1.out⟩
  · go_enter Try.func13, Try.ntmps13
    go_wp2_with (go_at_call 41; refine (best_c near hP.out).mono ?_; rintro e1 w1 ⟨rfl, hb1⟩; have B1 := Lib.hid hb1; clear hb1)
    go_ret
    exact ⟨rfl, B1.out⟩

theorem inode_nil (near : Int) (w : World) : Calls Try.prog 25 #[.pointer none, .int .i64 near] w (fun e w' => e = .returned (.tuple #[.int .i64 0, .int .i64 1]) ∧ w = w') := by
  go_enter Try.func25, Try.ntmps25
  go_wp2_with fail
  go_ret2
  exact ⟨rfl, rfl⟩
theorem block_nil (near : Int) (w : World) : Calls Try.prog 23 #[.pointer none, .int .i64 near] w (fun e w' => e = .returned (.tuple #[.int .i64 0, .int .i64 1]) ∧ w = w') := by
  go_enter Try.func23, Try.ntmps23
  go_wp2_with fail
  go_ret2
  exact ⟨rfl, rfl⟩
/-- the first one that is free -/
structure FirstAt (g i b : Nat) (X : Nat → List Nat) (near : Int) (q : Bool) (k n : Nat) : Prop where
  best : groupI g i b X near q = (k : Int)
  kg : k < g
  first : IsFirst (X (polO q + 2 + 2 * k)) 0 (polE i b q) (n : Int)
  free : hasN (X (polO q + 2 + 2 * k)) n = false
  lt : n < polE i b q
/-- its set behind that -/
def takeX (X : Nat → List Nat) (q : Bool) (k n : Nat) : Nat → List Nat := updX X (polO q + 2 + 2 * k) (putN (X (polO q + 2 + 2 * k)) n true)
theorem inode_none (near : Int) (h : Spc w F s g i b X) (hn : groupI g i b X near true < 0) :
    Calls Try.prog 25 #[.pointer (some ⟨s, 0, none⟩), .int .i64 near] w (Tells (.tuple #[.int .i64 0, .int .i64 13]) w) := by
  have hP := Lib.hid (h.pol (polIs i b true))
  have hn' := Lib.hid hn
  clear h hn
  go_enter Try.func25, Try.ntmps25
  go_wp2_with (go_at_call 49; refine (take_none near hP.out hn'.out).mono ?_; rintro e1 w1 ⟨rfl, hb1⟩; have B1 := Lib.hid hb1; clear hb1)
  go_ret2
  exact ⟨rfl, B1.out⟩
theorem block_none (near : Int) (h : Spc w F s g i b X) (hn : groupI g i b X near false < 0) :
    Calls Try.prog 23 #[.pointer (some ⟨s, 0, none⟩), .int .i64 near] w (Tells (.tuple #[.int .i64 0, .int .i64 13]) w) := by
  have hP := Lib.hid (h.pol (polIs i b false))
  have hn' := Lib.hid hn
  clear h hn
  go_enter Try.func23, Try.ntmps23
  go_wp2_with (go_at_call 49; refine (take_none near hP.out hn'.out).mono ?_; rintro e1 w1 ⟨rfl, hb1⟩; have B1 := Lib.hid hb1; clear hb1)
  go_ret2
  exact ⟨rfl, B1.out⟩
set_option maxHeartbeats 1000000 in
theorem inode_some (near : Int) (k n : Nat) (r : Int) (h : Spc w F s g i b X) (hf : FirstAt g i b X near true k n) (hr : r = ((1 + k * i + n : Nat) : Int)) :
    Calls Try.prog 25 #[.pointer (some ⟨s, 0, none⟩), .int .i64 near] w (GivesS F s g i b (takeX X true k n) (.tuple #[.int .i64 r, .int .i64 0]) w) := by
  have hP := Lib.hid (h.pol (polIs i b true))
  have hf' := Lib.hid hf
  have hk := hf.kg
  have hn : n < i := hf.lt
  have hi := h.ok.i2
  have hg := h.ok.g2
  have dk : decide ((k : Int) < 0) = false := decide_eq_false (by omega)
  have hki := Nat.mul_le_mul (show k ≤ 8 by omega) hi
  obtain ⟨ki, hki'⟩ : ∃ ki, k * i = ki := ⟨_, rfl⟩
  have e1 : (k : Int) * (i : Int) = (ki : Int) := by rw [← hki']; exact (Int.natCast_mul k i).symm
  rw [hki'] at hki hr
  have hr' : Hid ((1 + (ki : Int)) + (n : Int) = r) := Lib.hid (by omega)
  clear h hf hr hki'
  go_enter Try.func25, Try.ntmps25
  go_wp2_with (go_at_call 49; refine (take_some near k n hP.out hf'.out.best hf'.out.kg hf'.out.first hf'.out.free hf'.out.lt).mono ?_; rintro e1 w1 ⟨rfl, hS1, hT1⟩; have S1 := Lib.hid hS1; have T1 := Lib.hid hT1; have c1 := hS1.ci; clear hS1 hT1)
  rw [hr'.out]
  go_ret2
  exact ⟨rfl, S1.out, T1.out⟩
attribute [local go_sem ↓] ldE_of
set_option maxHeartbeats 1000000 in
theorem block_some (near : Int) (k n : Nat) (r : Int) (h : Spc w F s g i b X) (hf : FirstAt g i b X near false k n) (hr : r = ((3 + i / 4 + k * spanN i b + n : Nat) : Int)) :
    Calls Try.prog 23 #[.pointer (some ⟨s, 0, none⟩), .int .i64 near] w (GivesS F s g i b (takeX X false k n) (.tuple #[.int .i64 r, .int .i64 0]) w) := by
  have hP := Lib.hid (h.pol (polIs i b false))
  have hf' := Lib.hid hf
  have hk := hf.kg
  have hn : n < b := hf.lt
  have ok := h.ok
  have hi := ok.i2
  have hg := ok.g2
  have hb2 := ok.b2
  have dk : decide ((k : Int) < 0) = false := decide_eq_false (by omega)
  have hsp : spanN i b ≤ 105 := by unfold spanN; omega
  have hki := Nat.mul_le_mul (show k ≤ 8 by omega) hsp
  obtain ⟨fst, hfst⟩ : ∃ fst, firstN i b k = fst := ⟨_, rfl⟩
  have hfb : fst ≤ 1000 := by rw [← hfst]; unfold firstN; omega
  have hr' : Hid (((fst : Nat) : Int) + (n : Int) = r) := Lib.hid (by rw [hr, ← hfst]; unfold firstN; omega)
  have hfst' := Lib.hid (show ((fst : Nat) : Int) = ((firstN i b k : Nat) : Int) by rw [hfst])
  have hG := Lib.hid (show Geom (g : Int) (i : Int) (b : Int) g i b from ⟨rfl, rfl, rfl, ok⟩)
  clear h hf hr hfst hsp hki ok
  go_enter Try.func23, Try.ntmps23
  go_wp2_with (first
    | (go_at_call 49; refine (take_some near k n hP.out hf'.out.best hf'.out.kg hf'.out.first hf'.out.free hf'.out.lt).mono ?_; rintro e1 w1 ⟨rfl, hS1, hT1⟩; have S1 := Lib.hid hS1; have T1 := Lib.hid hT1; have hl := hS1.ldE; clear hS1 hT1)
    | (go_at_call 29; refine (geoFirst_c k (k : Int) (fst : Int) _ hG.out rfl hk hfst'.out).mono ?_; rintro e2 w2 ⟨rfl, hb2⟩; have S2 := Lib.hid (S1.out.below hb2); have T2 := Lib.hid (T1.out.trans (TurnF.of_below [s] hb2)); clear hb2))
  rw [hr'.out]
  go_ret2
  exact ⟨rfl, S2.out, T2.out⟩

theorem mark_nil (n m : Int) (w : World) : Calls Try.prog 28 #[.pointer none, .int .i64 n, .int .i64 m] w (fun e w' => e = .returned (.int .i64 1) ∧ w = w') := by
  go_enter Try.func28, Try.ntmps28
  go_wp2_with (go_at_call 51; refine (find_nil _ _ _).mono ?_; rintro e1 w1 ⟨rfl, rfl⟩)
  go_ret
  exact ⟨rfl, rfl⟩
theorem mark_bad (n m : Int) (h : Spc w F s g i b X) (ha : AskedNo g i b n m) :
    Calls Try.prog 28 #[.pointer (some ⟨s, 0, none⟩), .int .i64 n, .int .i64 m] w (Tells (.int .i64 2) w) := by
  have h' := Lib.hid h
  have ha' := Lib.hid ha
  clear h ha
  go_enter Try.func28, Try.ntmps28
  go_wp2_with (go_at_call 51; refine (find_bad n m h'.out.sp h'.out.ok ha'.out).mono ?_; rintro e1 w1 ⟨rfl, hb1⟩; have B1 := Lib.hid hb1; clear hb1)
  go_ret
  exact ⟨rfl, B1.out⟩
theorem defer_bad (n m : Int) (h : Spc w F s g i b X) (ha : AskedNo g i b n m) :
    Calls Try.prog 26 #[.pointer (some ⟨s, 0, none⟩), .int .i64 n, .int .i64 m] w (Tells (.int .i64 2) w) := by
  have h' := Lib.hid h
  have ha' := Lib.hid ha
  clear h ha
  go_enter Try.func26, Try.ntmps26
  go_wp2_with (go_at_call 51; refine (find_bad n m h'.out.sp h'.out.ok ha'.out).mono ?_; rintro e1 w1 ⟨rfl, hb1⟩; have B1 := Lib.hid hb1; clear hb1)
  go_ret
  exact ⟨rfl, B1.out⟩
set_option maxHeartbeats 1000000 in
theorem mark_in (k j : Nat) (n m : Int) (h : Spc w F s g i b X) (hp : Pol o e i b) (hk : k < g) (hj : j < e) (ha : Asked i b o k j n m) :
    Calls Try.prog 28 #[.pointer (some ⟨s, 0, none⟩), .int .i64 n, .int .i64 m] w (GivesS F s g i b (markX X (o + 2 + 2 * k) j) (.int .i64 (markCode X (o + 2 + 2 * k) j)) w) := by
  have hP := h.pol hp
  have hc := Lib.hid (show Slot g (o + 2 + 2 * k) from hp.slot (g := g) (d := 0) hk (by omega))
  have hw := hp.wid (d := 0) hP.g8 hk (by omega)
  rw [Nat.add_zero] at hw
  have hw' := Lib.hid hw
  have h1 := hP.g8
  have h2 := hP.e1
  have h3 := hP.e96
  have h' := Lib.hid h
  have hp' := Lib.hid hp
  have ha' := Lib.hid ha
  clear h hP ha hw hp
  go_enter Try.func28, Try.ntmps28
  go_wp2_with (first
    | (go_at_call 51; refine (find_in k j n m h'.out.sp h'.out.ok hp'.out hk hj ha'.out).mono ?_; rintro e1 w1 ⟨rfl, hb1⟩; have B1 := Lib.hid hb1; have S1 := Lib.hid (h'.out.below hb1); clear hb1)
    | (go_at_call 54; refine (mark_c _ j S1.out.sp h1 hc.out (by rw [hw'.out]; omega) (by rw [hw'.out]; omega) (by omega)).mono ?_; rintro e2 w2 ⟨rfl, hS2, hT2⟩; have S2 := Lib.hid hS2; have T2 := Lib.hid hT2; clear hS2 hT2))
  go_ret
  exact ⟨rfl, S2.out, (TurnF.of_below [s] B1.out).trans T2.out⟩
set_option maxHeartbeats 1000000 in
theorem defer_in (k j : Nat) (n m : Int) (h : Spc w F s g i b X) (hp : Pol o e i b) (hk : k < g) (hj : j < e) (ha : Asked i b o k j n m) :
    Calls Try.prog 26 #[.pointer (some ⟨s, 0, none⟩), .int .i64 n, .int .i64 m] w (GivesS F s g i b (deferX X (o + 2 + 2 * k) j) (.int .i64 (deferCode X (o + 2 + 2 * k) j)) w) := by
  have hP := h.pol hp
  have hc := Lib.hid (show Slot g (o + 2 + 2 * k) from hp.slot (g := g) (d := 0) hk (by omega))
  have hc1 := Lib.hid (show Slot g (o + 2 + 2 * k + 1) from hp.slot (g := g) (d := 1) hk (by omega))
  have hw := hp.wid (d := 0) hP.g8 hk (by omega)
  have hw1 := Lib.hid (hp.wid (d := 1) hP.g8 hk (by omega))
  rw [Nat.add_zero] at hw
  have hw' := Lib.hid hw
  have h1 := hP.g8
  have h2 := hP.e1
  have h3 := hP.e96
  have h' := Lib.hid h
  have hp' := Lib.hid hp
  have ha' := Lib.hid ha
  clear h hP ha hw hp
  go_enter Try.func26, Try.ntmps26
  go_wp2_with (first
    | (go_at_call 51; refine (find_in k j n m h'.out.sp h'.out.ok hp'.out hk hj ha'.out).mono ?_; rintro e1 w1 ⟨rfl, hb1⟩; have B1 := Lib.hid hb1; have S1 := Lib.hid (h'.out.below hb1); clear hb1)
    | (go_at_call 52; refine (postpone_c _ j S1.out.sp h1 hc.out hc1.out (by rw [hw'.out]; omega) (by rw [hw'.out]; omega) (by rw [hw'.out]; exact hw1.out) (by omega)).mono ?_; rintro e2 w2 ⟨rfl, hS2, hT2⟩; have S2 := Lib.hid hS2; have T2 := Lib.hid hT2; clear hS2 hT2))
  go_ret
  exact ⟨rfl, S2.out, (TurnF.of_below [s] B1.out).trans T2.out⟩
end Go.Proofs.Ytdkjmpicdkfgoaa
