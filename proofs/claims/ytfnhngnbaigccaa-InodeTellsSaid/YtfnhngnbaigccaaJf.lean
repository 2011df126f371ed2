/-
  An inode is spelled.
-/
import Derived.Test.YtfnhngnbaigccaaJe
import Derived.Test.YtfnhngnbaigccaaPp
import Derived.Test.YtfnhngnbaigccaaAv
import Derived.Deep.RegionWith
import Derived.Deep.RegionHeld3
namespace Go.Proofs.Ytfnhngnbaigccaa
open Go.RowKit BigFrame

theorem direct_any (g off cap k : Nat) (w : World) (hk : k < 6) (hc : 23 ≤ cap) :
    Calls Try.prog 39 #[.slice (some ⟨g, off, none⟩) 23 cap, .int .i64 (k : Int)] w fun e w' => (∃ c, 2 ≤ c ∧ e = .returned (.slice (some ⟨g, off + (7 + 2 * k), none⟩) 2 c)) ∧ w = w' := by
  obtain ⟨q, hq⟩ : ∃ q, 7 + 2 * k = q := ⟨_, rfl⟩
  have e1 : (7 : Int) + (k : Int) * 2 = (q : Int) := by omega
  have hq19 : q < 19 := by omega
  have hne : ¬ cap = q := by omega
  rw [hq]
  have hq' := Lib.hid hq
  clear hq
  go_enter Try.func39, Try.ntmps39
  go_wp2_with fail
  go_ret
  exact ⟨⟨cap - q, by omega, by show Ending.returned (.slice (some ⟨g, off + q, none⟩) (q + 2 - q) (cap - q)) = _; rw [Nat.add_sub_cancel_left]⟩, rfl⟩

/-- a number put into a row that is spliced already -/
theorem put_more (g off cap m : Nat) (C : Int) (L P : List Nat) (s : Nat) (w : World) (hC : C = (s : Int)) (hs : s < 9223372036854775808) (hm : m ≤ 1000) (hrow : Row w g (splice L off P)) (hl : off + (P.length + m) ≤ L.length) :
    Calls Try.prog 38 #[.slice (some ⟨g, off + P.length, none⟩) m cap, .int .i64 C] w fun e w' => e = .returned (.tuple #[]) ∧ Row w' g (splice L off (P ++ be m s)) ∧ Oth g w w' := by
  subst hC
  refine (put_any g (off + P.length) m cap (splice L off P) s w hs hm hrow (by rw [length_splice _ _ _ (by omega)]; omega)).mono ?_
  rintro e w' ⟨he, hr, ho⟩
  rw [splice_splice L P (be m s) off (by omega)] at hr
  exact ⟨he, hr, ho⟩

/-- the k-th number -/
def pn (l : List Int) (k : Nat) : Nat := (zi l k).toNat
def preD (l : List Int) : Nat → List Nat
  | 0 => be 1 (pn l 0) ++ be 2 (pn l 1) ++ be 4 (pn l 2)
  | k + 1 => preD l k ++ be 2 (pn l (3 + k))
theorem preD_length (l : List Int) : ∀ k, (preD l k).length = 7 + 2 * k
  | 0 => by simp [preD, be_length]
  | k + 1 => by rw [preD, List.length_append, preD_length l k, be_length]; omega
theorem spellI_is {l : List Int} (h : l.length = 11) : spellI l = preD l 6 ++ be 2 (pn l 9) ++ be 2 (pn l 10) := by
  obtain ⟨a, b, c, d0, d1, d2, d3, d4, d5, x, y, rfl⟩ := eleven h
  simp only [spellI, wsI, spellW, preD, pn, zi, List.getD_cons_zero, List.getD_cons_succ, List.append_assoc, List.append_nil]
theorem fits_pn {l : List Int} (h : l.length = 11) (hf : FitsW wsI l) : ∀ k, k < 11 → zi l k = ((pn l k : Nat) : Int) ∧ pn l k < 4294967296 := by
  obtain ⟨a, b, c, d0, d1, d2, d3, d4, d5, x, y, rfl⟩ := eleven h
  have e1 : (256 ^ 1 : Nat) = 256 := rfl
  have e2 : (256 ^ 2 : Nat) = 65536 := rfl
  have e4 : (256 ^ 4 : Nat) = 4294967296 := rfl
  simp only [wsI, FitsW, e1, e2, e4] at hf
  have key : ∀ z : Int, 0 ≤ z → z < 4294967296 → z = ((z.toNat : Nat) : Int) ∧ z.toNat < 4294967296 := fun z h1 h2 => by omega
  intro k hk
  match k, hk with
  | 0, _ => exact key a (by omega) (by omega)
  | 1, _ => exact key b (by omega) (by omega)
  | 2, _ => exact key c (by omega) (by omega)
  | 3, _ => exact key d0 (by omega) (by omega)
  | 4, _ => exact key d1 (by omega) (by omega)
  | 5, _ => exact key d2 (by omega) (by omega)
  | 6, _ => exact key d3 (by omega) (by omega)
  | 7, _ => exact key d4 (by omega) (by omega)
  | 8, _ => exact key d5 (by omega) (by omega)
  | 9, _ => exact key x (by omega) (by omega)
  | 10, _ => exact key y (by omega) (by omega)

/-- the row is spelled so far, and nothing else has turned -/
def SpAt (g off : Nat) (L : List Nat) (wb : World) (P : List Nat) (wr : World) : Prop := Row wr g (splice L off P) ∧ Oth g wb wr
theorem SpAt.put {g off m s cap : Nat} {C : Int} {L P : List Nat} {wb w : World} (h : SpAt g off L wb P w) (O : Nat) (hO : O = off + P.length) (hC : C = (s : Int)) (hs : s < 4294967296) (hm : m ≤ 4) (hl : off + (P.length + m) ≤ L.length) :
    Calls Try.prog 38 #[.slice (some ⟨g, O, none⟩) m cap, .int .i64 C] w fun e w' => e = .returned (.tuple #[]) ∧ SpAt g off L wb (P ++ be m s) w' := by
  subst hO
  refine (put_more g off cap m C L P s w hC (by omega) (by omega) h.1 hl).mono ?_
  rintro e w' ⟨he, hr, ho⟩
  exact ⟨he, hr, h.2.trans ho⟩
theorem SpAt.drew {g off : Nat} {L P : List Nat} {wb w : World} (h : SpAt g off L wb P w) : SpAt g off L wb P w.drew := ⟨h.1.drew1, h.2.drew⟩
theorem SpAt.cell {g off : Nat} {L P : List Nat} {wb w : World} (h : SpAt g off L wb P w) {G k : Nat} {v : Value} (hc : wb.cell? ⟨G, k, none⟩ = some v) (hn : ¬ G = g) : w.cell? ⟨G, k, none⟩ = some v := (h.2.cell (a := ⟨G, k, none⟩) hn).trans hc
def SpRel (l : List Int) (g off : Nat) (L : List Nat) (wb : World) (i : Value) (wr : World) : Prop := ∃ k : Nat, k ≤ 6 ∧ i = .int .i64 k ∧ SpAt g off L wb (preD l k) wr

attribute [local go_sem ↓] ldS_of ixS_of
set_option maxHeartbeats 1000000 in
theorem spell_any (g off cap : Nat) (L : List Nat) (l : List Int) (w : World) (hl : l.length = 11) (hf : FitsW wsI l) (hc : 23 ≤ cap) (hrow : Row w g L) (hL : off + 23 ≤ L.length) :
    Calls Try.prog 24 #[.slice (some ⟨g, off, none⟩) 23 cap, av l] w fun e w' => e = .returned (.tuple #[]) ∧ Row w' g (splice L off (spellI l)) ∧ w.grownBy w' (some g) := by
  have hV := Lib.hid (Vi.alloc w l 24)
  have hg0 := Lib.hid hrow.lt
  have hb0 := (Below.refl w.heap.size w).alloc (Nat.le_refl _) (.cells (iv l).toArray 24)
  have hR0 := Lib.hid (hrow.on hb0 hrow.lt)
  have hb0' := Lib.hid hb0
  have hpn := Lib.hid (fits_pn hl hf)
  have hsp := Lib.hid (spellI_is hl)
  have hl' := Lib.hid hl
  obtain ⟨a, ha⟩ : ∃ a, pn l 0 = a := ⟨_, rfl⟩
  obtain ⟨b, hb⟩ : ∃ b, pn l 1 = b := ⟨_, rfl⟩
  obtain ⟨c, hcc⟩ : ∃ c, pn l 2 = c := ⟨_, rfl⟩
  obtain ⟨x, hx⟩ : ∃ x, pn l 9 = x := ⟨_, rfl⟩
  obtain ⟨y, hy⟩ : ∃ y, pn l 10 = y := ⟨_, rfl⟩
  have c0 := hV.out.cell (k := 0) (by omega)
  have c1 := hV.out.cell (k := 1) (by omega)
  have c2 := hV.out.cell (k := 2) (by omega)
  have c9 := hV.out.cell (k := 9) (by omega)
  have c10 := hV.out.cell (k := 10) (by omega)
  rw [(hpn.out 0 (by omega)).1, ha] at c0
  rw [(hpn.out 1 (by omega)).1, hb] at c1
  rw [(hpn.out 2 (by omega)).1, hcc] at c2
  rw [(hpn.out 9 (by omega)).1, hx] at c9
  rw [(hpn.out 10 (by omega)).1, hy] at c10
  have la : a < 4294967296 := by have := (hpn.out 0 (by omega)).2; omega
  have lb : b < 4294967296 := by have := (hpn.out 1 (by omega)).2; omega
  have lc : c < 4294967296 := by have := (hpn.out 2 (by omega)).2; omega
  have lx : x < 4294967296 := by have := (hpn.out 9 (by omega)).2; omega
  have ly : y < 4294967296 := by have := (hpn.out 10 (by omega)).2; omega
  rw [hx, hy] at hsp
  have hp0 := Lib.hid (show preD l 0 = [] ++ be 1 a ++ be 2 b ++ be 4 c by rw [preD, ha, hb, hcc]; rfl)
  have hgv : ¬ w.heap.size = g := fun e => by have := hrow.lt; omega
  have hLL := Lib.hid hL
  obtain ⟨D, hD⟩ : ∃ D, (l.drop 3).take 6 = D := ⟨_, rfl⟩
  have hDl := Lib.hid (show D.length = 6 by rw [← hD, List.length_take, List.length_drop]; omega)
  have hDz := Lib.hid (show ∀ k, k < 6 → zi D k = zi l (3 + k) from fun k hk => by rw [← hD, zi_take hk, zi_drop])
  have hDD := Lib.hid hD
  have b1 : (1 : Int) ≤ (cap : Int) := by omega
  have b3 : (3 : Int) ≤ (cap : Int) := by omega
  have b7 : (7 : Int) ≤ (cap : Int) := by omega
  have b21 : (21 : Int) ≤ (cap : Int) := by omega
  have b23 : (23 : Int) ≤ (cap : Int) := by omega
  have n1 : ¬ cap = 1 := by omega
  have n3 : ¬ cap = 3 := by omega
  have n19 : ¬ cap = 19 := by omega
  have n21 : ¬ cap = 21 := by omega
  clear hb0 hrow ha hb hcc hx hy hl hf hL hD
  obtain ⟨wb, hwb⟩ : ∃ wb, wb = w.alloc (.cells (iv l).toArray 24) := ⟨_, rfl⟩
  unfold av
  go_enter Try.func24, Try.ntmps24
  go_wp2_with fail
  rw [← hwb] at hV hR0 hb0' c0 c1 c2 c9 c10 ⊢
  clear hwb
  have hC9 := Lib.hid c9
  have hC10 := Lib.hid c10
  have hC1 := Lib.hid c1
  have hC2 := Lib.hid c2
  have S0 := Lib.hid (show SpAt g off L wb [] wb from ⟨by rw [splice_nil]; exact hR0.out, Oth.refl _ _⟩)
  clear hR0 c9 c10 c1 c2
  go_region_held3 (fun w' => w'.cell? ⟨w.heap.size, 0, none⟩ = some (.int .i64 (a : Int))) (first | exact c0 | exact q0) (first
    | (go_at_call 38; refine (S0.out.drew.put off (by simp) rfl la (by omega) (by have := hLL.out; simp; omega)).mono ?_; rintro e w1 ⟨rfl, hS⟩; have q0 := hS.cell c0 hgv; have S1 := Lib.hid hS; clear hS))
  clear c0 q0
  have c1 := S1.out.cell hC1.out hgv
  clear S0
  go_wp2_with fail
  go_region_held3 (fun w' => w'.cell? ⟨w.heap.size, 1, none⟩ = some (.int .i64 (b : Int))) (first | exact c1 | exact q1) (first
    | (go_at_call 38; refine (S1.out.drew.put (off + 1) (by simp [be_length]) rfl lb (by omega) (by have := hLL.out; simp [be_length]; omega)).mono ?_; rintro e w2 ⟨rfl, hS⟩; have q1 := hS.cell hC1.out hgv; have S2 := Lib.hid hS; clear hS))
  clear c1 q1 S1 hC1
  have c2 := S2.out.cell hC2.out hgv
  go_wp2_with fail
  go_region_held3 (fun w' => w'.cell? ⟨w.heap.size, 2, none⟩ = some (.int .i64 (c : Int))) (first | exact c2 | exact q2) (first
    | (go_at_call 38; refine (S2.out.drew.put (off + 3) (by simp [be_length]) rfl lc (by omega) (by have := hLL.out; simp [be_length]; omega)).mono ?_; rintro e w3 ⟨rfl, hS⟩; have q2 := hS.cell hC2.out hgv; have S3 := Lib.hid hS; clear hS))
  clear c2 q2 S2 hC2
  rw [← hp0.out] at S3
  clear hp0
  have hld := run_ldS ((hV.out.oth S3.out.2 hgv).range 3 6) (by rw [hDD.out]; exact hDl.out)
  rw [hDD.out] at hld
  unfold av at hld
  go_wp2_with fail
  clear hld
  go_loopw [23] (fun i wr => SpRel l g off L wb i wr) (fun i _ => 6 - (intOf i).toNat)
  case atStart => exact ⟨0, by omega, rfl, S3.out⟩
  case round =>
    obtain ⟨k, hk, rfl, hS⟩ := hrel
    have S4 := Lib.hid hS
    clear hS
    by_cases hlt : k < 6
    · have hix := fun w => run_ixS w D k hlt hDl.out
      rw [hDz.out k hlt, (hpn.out (3 + k) (by omega)).1] at hix
      unfold av at hix
      obtain ⟨p, hp⟩ : ∃ p, pn l (3 + k) = p := ⟨_, rfl⟩
      have lp : p < 4294967296 := by have := (hpn.out (3 + k) (by omega)).2; omega
      rw [hp] at hix
      have hp' := Lib.hid hp
      clear hp
      go_wp2_with (first
        | (go_at_call 39; refine (direct_any g off cap k _ hlt hc).mono ?_; rintro e w5 ⟨⟨cp, hcp, rfl⟩, rfl⟩)
        | (go_at_call 38; refine (S4.out.put _ (by rw [preD_length]) rfl lp (by omega) (by have := hLL.out; rw [preD_length]; omega)).mono ?_; rintro e w6 ⟨rfl, hS⟩; have S5 := Lib.hid hS; clear hS))
      exact ⟨⟨k + 1, by omega, by go_num, by rw [preD, hp'.out]; exact S5.out⟩, by simp [intOf]; omega⟩
    · obtain rfl : k = 6 := by omega
      have c9 := S4.out.cell hC9.out hgv
      go_wp2_with fail
      go_region_held3 (fun w' => w'.cell? ⟨w.heap.size, 9, none⟩ = some (.int .i64 (x : Int))) (first | exact c9 | exact q9) (first
        | (go_at_call 38; refine (S4.out.drew.put (off + 19) (by rw [preD_length]) rfl lx (by omega) (by have := hLL.out; rw [preD_length]; omega)).mono ?_; rintro e w5 ⟨rfl, hS⟩; have q9 := hS.cell hC9.out hgv; have S5 := Lib.hid hS; clear hS))
      clear c9 q9
      have c10 := S5.out.cell hC10.out hgv
      go_wp2_with fail
      go_region_held3 (fun w' => w'.cell? ⟨w.heap.size, 10, none⟩ = some (.int .i64 (y : Int))) (first | exact c10 | exact q10) (first
        | (go_at_call 38; refine (S5.out.drew.put (off + 21) (by rw [List.length_append, preD_length, be_length]) rfl ly (by omega) (by have := hLL.out; rw [List.length_append, preD_length, be_length]; omega)).mono ?_; rintro e w6 ⟨rfl, hS⟩; have q10 := hS.cell hC10.out hgv; have S6 := Lib.hid hS; clear hS))
      go_wp2_with fail
      go_end0
      refine ⟨rfl, by rw [hsp.out]; exact S6.out.1, ?_⟩
      have h0 := hb0'.out
      have h1 := S6.out.2
      exact ⟨h1.os.trans h0.os, h1.tape.trans h0.tape, h1.output.trans h0.output, by rw [h1.size]; exact h0.size, fun k hk hn => (h1.block k (fun e => hn (by rw [e]))).trans (h0.block k hk)⟩
end Go.Proofs.Ytfnhngnbaigccaa
