/-
  The law on the document's own answers.
-/
import Derived.Test.YtghopfmidpobhaaBag
import Derived.Test.YtghopfmidpobhaaRefOpen
namespace Go.Proofs.Ytghopfmidpobhaa
open Go.RowKit BigFrame

/-- v is a slice with these bytes -/
def BV (w : World) (v : Value) (X : List Nat) : Prop := ∃ a n cap, v = .slice a n cap ∧ X.length = n ∧ BAt w a X
/-- v is an answer: nothing, or a row of the call's own -/
def Ans (w0 w : World) (v : Value) (X : List Nat) : Prop := (v = .slice none 0 0 ∧ X = []) ∨ ∃ g n, v = .slice (some ⟨g, 0, none⟩) n n ∧ X.length = n ∧ w0.heap.size ≤ g ∧ Row w g X
theorem Ans.bv {w0 w : World} {v : Value} {X : List Nat} (h : Ans w0 w v X) : BV w v X := by
  rcases h with ⟨rfl, rfl⟩ | ⟨g, n, rfl, hn, _, hr⟩
  · exact ⟨none, 0, 0, rfl, rfl, .inl rfl⟩
  · exact ⟨_, n, n, rfl, hn, hr.bat⟩
theorem BV.on {w w' : World} {v : Value} {X : List Nat} (h : BV w v X) (hb : Below w.heap.size w w') : BV w' v X := by
  obtain ⟨a, n, cap, rfl, hn, hx⟩ := h
  exact ⟨a, n, cap, rfl, hn, hx.on hb (Nat.le_refl _)⟩
theorem Ans.on {w0 w w' : World} {v : Value} {X : List Nat} (h : Ans w0 w v X) (hb : Below w.heap.size w w') : Ans w0 w' v X := by
  rcases h with h | ⟨g, n, rfl, hn, hg, hr⟩
  · exact .inl h
  · exact .inr ⟨g, n, rfl, hn, hg, hr.on hb hr.lt⟩

def sealCode (kind : Nat) (l : List Nat) : Nat := if kind = 0 ∨ 123 < l.length then 2 else 0
def sealBytes (kind : Nat) (l : List Nat) : List Nat := if kind = 0 ∨ 123 < l.length then [] else sealed kind l
def openCode (kind : Nat) (l : List Nat) : Nat := if kind = 0 ∨ kindOf l ≠ kind then 3 else 0
def openBytes (kind : Nat) (l : List Nat) : List Nat := if kind = 0 ∨ kindOf l ≠ kind then [] else bodyOf l
theorem sealBytes_len (kind : Nat) (l : List Nat) : (sealBytes kind l).length ≤ 128 := by
  unfold sealBytes
  split
  · simp
  · rw [sealed_length (by omega)]; omega
theorem openBytes_len (kind : Nat) (l : List Nat) : (openBytes kind l).length ≤ 128 := by
  unfold openBytes
  split
  · simp
  · unfold bodyOf; rw [List.length_take]; omega

def SealU (X : List Nat) (c : Nat) (w : World) (e : Ending) (w' : World) : Prop := ∃ v, e = .returned (.tuple #[v, .int .i64 (c : Int)]) ∧ Ans w w' v X ∧ Below w.heap.size w w'
def RefU (X : List Nat) (c : Nat) (w : World) (e : Ending) (w' : World) : Prop := ∃ v, e = .returned (.tuple #[v, .int .i64 (c : Int)]) ∧ BV w' v X ∧ Below w.heap.size w w'
theorem sealU_nil {c : Nat} {w w' : World} {e : Ending} (he : e = .returned (.tuple #[.slice none 0 0, .int .i64 (c : Int)])) (hb : Below w.heap.size w w') : SealU [] c w e w' := ⟨_, he, .inl ⟨rfl, rfl⟩, hb⟩
theorem refU_nil {c : Nat} {w w' : World} {e : Ending} (he : e = .returned (.tuple #[.slice none 0 0, .int .i64 (c : Int)])) (hb : Below w.heap.size w w') : RefU [] c w e w' := ⟨_, he, ⟨none, 0, 0, rfl, rfl, .inl rfl⟩, hb⟩

theorem seal_u {n : Nat} (kind : Nat) (a : Option Addr) (cap : Nat) (l : List Nat) (w : World) (hn : l.length = n) (hk : kind < 256) (ho : Octs l) (hx : BAt w a l) :
    Calls Try.prog 9 #[.int .u8 (kind : Int), .slice a n cap] w (SealU (sealBytes kind l) (sealCode kind l) w) := by
  subst hn
  unfold sealBytes sealCode
  by_cases h : kind = 0 ∨ 123 < l.length
  · rw [if_pos h, if_pos h]
    by_cases h0 : kind = 0
    · subst h0; exact (seal_zero a cap _ w).mono fun e w' ⟨he, hw⟩ => sealU_nil he (hw ▸ Below.refl _ _)
    · exact (seal_long kind a cap _ w (by omega)).mono fun e w' ⟨he, hw⟩ => sealU_nil he (hw ▸ Below.refl _ _)
  · rw [if_neg h, if_neg h]
    exact (seal_n kind a cap l w rfl (by omega) hk ho (by omega) hx).mono fun e w' ⟨g, he, hg, hr, hb⟩ => ⟨_, he, .inr ⟨g, 128, rfl, sealed_length (by omega), hg, hr⟩, hb⟩
theorem refSeal_u {n : Nat} (kind : Nat) (a : Option Addr) (cap : Nat) (l : List Nat) (w : World) (hn : l.length = n) (hk : kind < 256) (ho : Octs l) (hx : BAt w a l) (hnil : a = none → cap = 0) :
    Calls Try.prog 10 #[.int .u8 (kind : Int), .slice a n cap] w (RefU (sealBytes kind l) (sealCode kind l) w) := by
  subst hn
  unfold sealBytes sealCode
  by_cases h : kind = 0 ∨ 123 < l.length
  · rw [if_pos h, if_pos h]
    by_cases h0 : kind = 0
    · subst h0; exact (refSeal_zero a cap _ w).mono fun e w' ⟨he, hw⟩ => refU_nil he (hw ▸ Below.refl _ _)
    · exact (refSeal_long kind a cap _ w (by omega)).mono fun e w' ⟨he, hw⟩ => refU_nil he (hw ▸ Below.refl _ _)
  · rw [if_neg h, if_neg h]
    exact (refSeal_any kind a cap _ l w rfl (by omega) hk ho (by omega) hx hnil).mono fun e w' ⟨g, c, he, hg, _, hr, hb⟩ => ⟨_, he, ⟨_, 128, c, rfl, sealed_length (by omega), hr⟩, hb⟩
theorem open_u {n : Nat} (kind : Nat) (a : Option Addr) (cap : Nat) (l : List Nat) (w : World) (hn : l.length = n) (ho : Octs l) (hc : n ≤ cap) (hx : BAt w a l) :
    Calls Try.prog 11 #[.int .u8 (kind : Int), .slice a n cap] w (SealU (openBytes kind l) (openCode kind l) w) := by
  unfold openBytes openCode
  by_cases h : kind = 0 ∨ kindOf l ≠ kind
  · rw [if_pos h, if_pos h]
    exact (open_bad kind _ a cap n l w hn rfl h ho hc hx).mono fun e w' ht => sealU_nil ht.below.1 ht.below.2
  · rw [if_neg h, if_neg h]
    exact (open_good kind a cap n l w hn (by omega) (by omega) ho hc hx).mono fun e w' ⟨g, he, hg, hr, hb⟩ => ⟨_, he, .inr ⟨g, 123, rfl, bodyOf_length (kindOf_len (by omega)), hg, hr⟩, hb⟩
theorem refOpen_u {n : Nat} (kind : Nat) (a : Option Addr) (cap : Nat) (l : List Nat) (w : World) (hn : l.length = n) (ho : Octs l) (hc : n ≤ cap) (hx : BAt w a l) :
    Calls Try.prog 12 #[.int .u8 (kind : Int), .slice a n cap] w (RefU (openBytes kind l) (openCode kind l) w) := by
  unfold openBytes openCode
  by_cases h : kind = 0 ∨ kindOf l ≠ kind
  · rw [if_pos h, if_pos h]
    exact (refOpen_bad kind _ a cap n l w hn rfl h ho hc hx).mono fun e w' ⟨he, hb⟩ => refU_nil he hb
  · rw [if_neg h, if_neg h]
    exact (refOpen_good kind a cap n l w hn (by omega) (by omega) ho hc hx).mono fun e w' ⟨g, c, he, hg, hr, hb⟩ => ⟨_, he, ⟨_, 123, c, rfl, bodyOf_length (kindOf_len (by omega)), hr⟩, hb⟩
theorem same_u (v1 v2 : Value) (X : List Nat) (w : World) (hl : X.length ≤ 100000) (h1 : BV w v1 X) (h2 : BV w v2 X) :
    Calls Try.prog 13 #[v1, v2] w fun e w' => e = .returned (.bool true) ∧ Below w.heap.size w w' := by
  obtain ⟨a, n, c1, rfl, hn, hx⟩ := h1
  obtain ⟨b, m, c2, rfl, hm, hy⟩ := h2
  obtain rfl : n = m := by omega
  exact same_same a b c1 c2 n X X w hn rfl (by omega) hx hy
theorem over_u {w0 : World} (v : Value) (X : List Nat) (w : World) (hl : X.length ≤ 100000) (h : Ans w0 w v X) :
    Calls Try.prog 18 #[v] w (OverPost v.ownBlock w) := by
  rcases h with ⟨rfl, rfl⟩ | ⟨g, n, rfl, hn, _, hr⟩
  · exact over_nil w
  · exact over_row g n X w hn (by omega) hr
theorem Ans.block {w0 w : World} {v : Value} {X : List Nat} (h : Ans w0 w v X) : ∀ k, v.ownBlock = some k → w0.heap.size ≤ k ∧ k < w.heap.size := by
  intro k hk
  rcases h with ⟨rfl, rfl⟩ | ⟨g, n, rfl, hn, hg, hr⟩
  · cases hk
  · have : g = k := Option.some.inj hk
    subst this
    exact ⟨hg, hr.lt⟩
theorem Ans.grown {w0 w w' : World} {v : Value} {X : List Nat} {r : Option Nat} (h : Ans w0 w v X) (hg : w.grownBy w' r) (hr : ∀ k, v.ownBlock = some k → some k ≠ r) : Ans w0 w' v X := by
  rcases h with h | ⟨g, n, rfl, hn, hgg, hrow⟩
  · exact .inl h
  · exact .inr ⟨g, n, rfl, hn, hgg, hrow.grown hg (hr g rfl)⟩

theorem Bag.grown2 {w0 w w' : World} {g1 g2 M : Nat} {L1 L2 : List Nat} {r : Option Nat} (h : Bag w0 w [(g2, L2), (g1, L1)]) (hg : w.grownBy w' r) (h1 : g1 < M) (h2 : g2 < M) (hM : w0.heap.size ≤ M) (hr : ∀ k, r = some k → M ≤ k) : Bag w0 w' [(g2, L2), (g1, L1)] :=
  ⟨⟨h.1.1, h.1.2.grown hg (fun e => by have := hr g2 e.symm; omega)⟩, ⟨h.2.1.1, h.2.1.2.grown hg (fun e => by have := hr g1 e.symm; omega)⟩,
    h.below.trans (grownBy_below hg h.below.size (fun k hk => Nat.le_trans hM (hr k hk)))⟩
theorem ans_apart {w0 w1 w : World} {v1 v3 : Value} {X U : List Nat} (h1 : Ans w0 w1 v1 X) (h3 : Ans w1 w v3 U) : ∀ k, v3.ownBlock = some k → some k ≠ v1.ownBlock := fun k hk e => by
  have := (h3.block k hk).1
  have := (h1.block k e.symm).2
  omega

theorem kept_b (g cap n : Nat) (a : Option Addr) (l : List Nat) (w : World) (hn : l.length = n) (hl : n ≤ 100000) (hr : Row w g (marked l)) (hx : BAt w a l) :
    Calls Try.prog 19 #[.slice (some ⟨g, 0, none⟩) n (n + 3), .slice a n cap] w fun e w' => e = .returned (.bool true) ∧ Below w.heap.size w w' :=
  (kept_any g cap n a l l w hn hn hl hr hx rfl).mono fun _ _ h => h.below

theorem tells_long (kind : Int) (a1 a2 : Option Addr) (c1 c2 n1 n2 : Nat) (w : World) (h : 300 < n1 ∨ 300 < n2) :
    Calls Try.prog 3 #[.int .u8 kind, .slice a1 n1 c1, .slice a2 n2 c2] w (Woke w) := by
  by_cases h1 : 300 < n1
  all_goals
    have h2 : 300 < n1 ∨ 300 < n2 := h
    clear h
    go_enter Try.func3, Try.ntmps3
    have h3 : ¬ 300 < n1 → 300 < n2 := fun h => by omega
    clear h2
    first
      | (have h4 := h3 (by assumption)
         clear h3
         go_wp2_with (go_at_call 7; refine (awake_any _).mono ?_; rintro e w1 ⟨rfl, hb⟩)
         go_ret
         exact ⟨rfl, by assumption⟩)
      | (clear h3
         go_wp2_with (go_at_call 7; refine (awake_any _).mono ?_; rintro e w1 ⟨rfl, hb⟩)
         go_ret
         exact ⟨rfl, by assumption⟩)

set_option maxRecDepth 100000 in
set_option maxHeartbeats 2000000 in
theorem tells_main (kind : Nat) (a1 a2 : Option Addr) (c1 c2 n1 n2 : Nat) (l1 l2 : List Nat) (w : World) (hk : kind < 256) (hn1 : l1.length = n1) (hn2 : l2.length = n2) (h1 : n1 ≤ 300) (h2 : n2 ≤ 300)
    (ho1 : Octs l1) (ho2 : Octs l2) (hx1 : BAt w a1 l1) (hx2 : BAt w a2 l2) (hc2 : n2 ≤ c2) (hnil1 : a1 = none → c1 = 0) (hnil2 : a2 = none → c2 = 0) :
    Calls Try.prog 3 #[.int .u8 (kind : Int), .slice a1 n1 c1, .slice a2 n2 c2] w (Woke w) := by
  obtain ⟨X, hX⟩ : ∃ X, X = sealBytes kind l1 := ⟨_, rfl⟩
  obtain ⟨U, hU⟩ : ∃ U, U = openBytes kind l2 := ⟨_, rfl⟩
  obtain ⟨c, hc⟩ : ∃ c, c = sealCode kind l1 := ⟨_, rfl⟩
  obtain ⟨d, hd⟩ : ∃ d, d = openCode kind l2 := ⟨_, rfl⟩
  obtain ⟨k, hkk⟩ : ∃ k, k = kindOf l2 := ⟨_, rfl⟩
  obtain ⟨s, hss⟩ : ∃ s, s = sumOf l2 := ⟨_, rfl⟩
  have hXl : X.length ≤ 100000 := by have := sealBytes_len kind l1; rw [hX]; omega
  have hUl : U.length ≤ 100000 := by have := openBytes_len kind l2; rw [hU]; omega
  have hX' := Lib.hid hX
  have hU' := Lib.hid hU
  have hc' := Lib.hid hc
  have hd' := Lib.hid hd
  have hk' := Lib.hid hkk.symm
  have hs' := Lib.hid hss
  have hn1' := Lib.hid hn1
  have hn2' := Lib.hid hn2
  have ho1' := Lib.hid ho1
  have ho2' := Lib.hid ho2
  have hx1' := Lib.hid hx1
  have hx2' := Lib.hid hx2
  have hnil1' := Lib.hid hnil1
  have hnil2' := Lib.hid hnil2
  clear hX hU hc hd hkk hss hn1 hn2 ho1 ho2 hx1 hx2 hnil1 hnil2
  go_enter Try.func3, Try.ntmps3
  go_wp2_with (first
    | (go_at_call_of 8 a1; refine (lend_any a1 c1 n1 l1 w hn1'.out (by omega) hx1'.out hnil1'.out).mono ?_; rintro e w1 ⟨g1, rfl, hg1, hr1, hb1⟩; have B1 := Lib.hid ((Bag.start w).add hb1 hg1 hr1); clear hr1 hb1 hg1)
    | (go_at_call_of 8 a2; refine (lend_any a2 c2 n2 l2 w1 hn2'.out (by omega) (B1.out.arg hx2'.out) hnil2'.out).mono ?_; rintro e w2 ⟨g2, rfl, hg2, hr2, hb2⟩; have B2 := Lib.hid (B1.out.add hb2 hg2 hr2); have u1 := B2.out.r1.lt; have u2 := B2.out.r0.lt; have u0 := B2.out.below.size; clear hr2 hb2 hg2)
    | (go_at_call 9; refine (seal_u kind _ _ l1 w2 hn1'.out hk ho1'.out B2.out.r1.bat_front).mono ?_; rw [← hX'.out, ← hc'.out]; rintro e w3 ⟨v1, rfl, hA1, hb3⟩; have uz3 := hb3.size; have B3 := Lib.hid (B2.out.on hb3); have A1 := Lib.hid hA1; clear hA1 hb3)
    | (go_at_call 10; refine (refSeal_u kind a1 c1 l1 w3 hn1'.out hk ho1'.out (B3.out.arg hx1'.out) hnil1'.out).mono ?_; rw [← hX'.out, ← hc'.out]; rintro e w4 ⟨v2, rfl, hA2, hb4⟩; have B4 := Lib.hid (B3.out.on hb4); have A1b := Lib.hid (A1.out.on hb4); have uz := Nat.le_trans uz3 hb4.size; have V2 := Lib.hid hA2; clear hA2 hb4)
    | (go_at_call 11; refine (open_u kind _ _ l2 w4 hn2'.out ho2'.out (by omega) B4.out.r0.bat_front).mono ?_; rw [← hU'.out, ← hd'.out]; rintro e w5 ⟨v3, rfl, hA3, hb5⟩; have B5 := Lib.hid (B4.out.on hb5); have A1c := Lib.hid (A1b.out.on hb5); have V2c := Lib.hid (V2.out.on hb5); have A3 := Lib.hid hA3; clear hA3 hb5)
    | (go_at_call 12; refine (refOpen_u kind a2 c2 l2 w5 hn2'.out ho2'.out hc2 (B5.out.arg hx2'.out)).mono ?_; rw [← hU'.out, ← hd'.out]; rintro e w6 ⟨v4, rfl, hA4, hb6⟩; have B6 := Lib.hid (B5.out.on hb6); have A1d := Lib.hid (A1c.out.on hb6); have V2d := Lib.hid (V2c.out.on hb6); have A3d := Lib.hid (A3.out.on hb6); have V4 := Lib.hid hA4; clear hA4 hb6)
    | (go_at_call_of 13 v1; refine (same_u v1 v2 X w6 hXl A1d.out.bv V2d.out).mono ?_; rintro e w7 ⟨rfl, hb7⟩; have B7 := Lib.hid (B6.out.on hb7); have A1e := Lib.hid (A1d.out.on hb7); have A3e := Lib.hid (A3d.out.on hb7); have V4e := Lib.hid (V4.out.on hb7); clear hb7)
    | (go_at_call_of 13 v3; refine (same_u v3 v4 U w7 hUl A3e.out.bv V4e.out).mono ?_; rintro e w8 ⟨rfl, hb8⟩; have B8 := Lib.hid (B7.out.on hb8); have A1f := Lib.hid (A1e.out.on hb8); have A3f := Lib.hid (A3e.out.on hb8); clear hb8)
    | (go_at_call 14; refine (kind_b _ _ l2 w8 hk'.out hn2'.out ho2'.out (by omega) B8.out.r0.bat_front).mono ?_; rintro e w9 ⟨rfl, hb9⟩; have B9 := Lib.hid (B8.out.on hb9); have A1g := Lib.hid (A1f.out.on hb9); have A3g := Lib.hid (A3f.out.on hb9); clear hb9)
    | (go_at_call 15; refine (refKind_is a2 c2 l2 w9 hk'.out hn2'.out ho2'.out hc2 (B9.out.arg hx2'.out)).mono ?_; rintro e w10 ⟨rfl, hb10⟩; have B10 := Lib.hid (B9.out.on hb10); have A1h := Lib.hid (A1g.out.on hb10); have A3h := Lib.hid (A3g.out.on hb10); clear hb10)
    | (go_at_call 16; refine (sum_is _ _ l2 w10 hs'.out hn2'.out ho2'.out (by omega) B10.out.r0.bat_front).mono ?_; rintro e w11 ⟨rfl, rfl⟩)
    | (go_at_call 17; refine (refSum_is a2 c2 l2 w10 hs'.out hn2'.out ho2'.out (by omega) (B10.out.arg hx2'.out)).mono ?_; rintro e w11 ⟨rfl, rfl⟩)
    | (go_at_call_of 18 v1; refine (over_u v1 X w10 hXl A1h.out).mono ?_; rintro e w11 ⟨rfl, hg11⟩; have B11 := Lib.hid (B10.out.grown2 hg11 u1 u2 u0 (fun k hk => (A1h.out.block k hk).1)); have A3i := Lib.hid (A3h.out.grown hg11 (ans_apart A1b.out A3h.out)); clear hg11)
    | (go_at_call_of 18 v3; refine (over_u v3 U w11 hUl A3i.out).mono ?_; rintro e w12 ⟨rfl, hg12⟩; have B12 := Lib.hid (B11.out.grown2 hg12 u1 u2 u0 (fun k hk => Nat.le_trans uz (A3i.out.block k hk).1)); clear hg12)
    | (go_at_call_of 19 g1; refine (kept_b g1 c1 n1 a1 l1 w12 hn1'.out (by omega) B12.out.r1 (B12.out.arg hx1'.out)).mono ?_; rintro e w13 ⟨rfl, hb13⟩; have B13 := Lib.hid (B12.out.on hb13); clear hb13)
    | (go_at_call_of 19 g2; refine (kept_b g2 c2 n2 a2 l2 w13 hn2'.out (by omega) B13.out.r0 (B13.out.arg hx2'.out)).mono ?_; rintro e w14 ⟨rfl, hb14⟩; have B14 := Lib.hid (B13.out.on hb14); clear hb14)
    | (go_at_call 7; refine (awake_any w14).mono ?_; rintro e w15 ⟨rfl, hb15⟩; have hend := Lib.hid (B14.out.low hb15); clear hb15))
  go_ret
  exact ⟨rfl, hend.out⟩

theorem tells_any (kind : Nat) (a1 a2 : Option Addr) (c1 c2 : Nat) (l1 l2 : List Nat) (w : World) (hk : kind < 256)
    (ho1 : Octs l1) (ho2 : Octs l2) (hx1 : BAt w a1 l1) (hx2 : BAt w a2 l2) (hc2 : l2.length ≤ c2) (hnil1 : a1 = none → c1 = 0) (hnil2 : a2 = none → c2 = 0) :
    Calls Try.prog 3 #[.int .u8 (kind : Int), .slice a1 l1.length c1, .slice a2 l2.length c2] w (Woke w) := by
  by_cases h : 300 < l1.length ∨ 300 < l2.length
  · exact tells_long _ a1 a2 c1 c2 _ _ w h
  · exact tells_main kind a1 a2 c1 c2 _ _ l1 l2 w hk rfl rfl (by omega) (by omega) ho1 ho2 hx1 hx2 hc2 hnil1 hnil2
end Go.Proofs.Ytghopfmidpobhaa
