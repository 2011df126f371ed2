/-
  As many are taken as there are, each once: the numbers.
-/
import Derived.Test.YtdkjmpicdkfgoaaQp
namespace Go.Proofs.Ytdkjmpicdkfgoaa
open Go.RowKit BigFrame Fl
variable {g : Nat} {Y Z : Nat → List Nat} {L : List Bool} {n : Nat}

theorem takeX_mark {X : Nat → List Nat} {q : Bool} {k j : Nat} (h : hasN (X (polO q + 2 + 2 * k)) j = false) : takeX X q k j = markX X (polO q + 2 + 2 * k) j := by
  unfold takeX markX
  rw [if_neg (by rw [h]; decide)]
/-- while not all blocks are taken there is one -/
theorem BackIn.more (h : BackIn g Y L n 0) (near : Int) (ok : Ok g 8 16) (hn : n < g * 16) : ∃ k j, FirstAt g 8 16 Y near false k j := by
  refine group_some near false ok ?_
  have h2 := free_tak Y 21 16 g
  rw [h.tk] at h2
  show 0 < freeTo Y 21 16 g
  omega
theorem BackIn.full (h : BackIn g Y L n 0) (near : Int) (hn : n = g * 16) : groupI g 8 16 Y near false < 0 := by
  refine group_zero near false ?_
  have h2 := free_tak Y 21 16 g
  rw [h.tk] at h2
  show freeTo Y 21 16 g = 0
  omega
/-- the list of what was taken tells blocks -/
def AllAt (g : Nat) (A : Nat → Int) (n : Nat) : Prop := ∀ p, p < n → ∃ k j : Nat, k < g ∧ j < 16 ∧ A p = ((pK k j : Nat) : Int)
/-- inodes are taken: which by a list; no block's set has turned -/
structure InoIn (g : Nat) (Z Y : Nat → List Nat) (L : List Bool) (n : Nat) : Prop where
  len : L.length = g * 8 + 1
  hi : ∀ c, 21 ≤ c → Y c = Z c
  siz : ∀ k, k < g → (Y (3 + 2 + 2 * k)).length = 1
  rel : ∀ k j, k < g → j < 8 → bb L (1 + k * 8 + j) = hasN (Y (3 + 2 + 2 * k)) j
  dz : ∀ k, k < g → ∀ j, j < 8 → hasN (Y (3 + 2 + 2 * k + 1)) j = false
  tk : takTo Y 3 8 g = n
theorem InoIn.start (h : BackIn g Z L n 0) (hg : g ≤ 8) : InoIn g Z Z (List.replicate (g * 8 + 1) false) 0 :=
  ⟨by simp, fun _ _ => rfl, fun k hk => by rw [h.low _ (by omega)]; unfold X0; rw [zs_length, show wid 8 16 (3 + 2 + 2 * k) = 8 from if_pos (by omega)],
    fun k j hk hj => (by rw [bb_rep, h.low _ (by omega), x0_has]), fun k hk j _ => (by rw [h.low _ (by omega), x0_has]),
    tak_none fun k hk j _ => (by rw [h.low _ (by omega), x0_has])⟩
theorem InoIn.more (h : InoIn g Z Y L n) (near : Int) (ok : Ok g 8 16) (hn : n < g * 8) : ∃ k j, FirstAt g 8 16 Y near true k j := by
  refine group_some near true ok ?_
  have h2 := free_tak Y 3 8 g
  rw [h.tk] at h2
  show 0 < freeTo Y 3 8 g
  omega
theorem InoIn.full (h : InoIn g Z Y L n) (near : Int) (hn : n = g * 8) : groupI g 8 16 Y near true < 0 := by
  refine group_zero near true ?_
  have h2 := free_tak Y 3 8 g
  rw [h.tk] at h2
  show freeTo Y 3 8 g = 0
  omega
theorem ino_one {k j k2 j2 : Nat} (hj : j < 8) (hj2 : j2 < 8) (h : 1 + k * 8 + j = 1 + k2 * 8 + j2) : k = k2 ∧ j = j2 := by omega
theorem InoIn.take (h : InoIn g Z Y L n) {k j : Nat} (hk : k < g) (hj : j < 8) (hg : g ≤ 8) (hh : hasN (Y (3 + 2 + 2 * k)) j = false) : InoIn g Z (takeX Y true k j) (L.set (1 + k * 8 + j) true) (n + 1) := by
  have h2 := h.siz k hk
  show InoIn g Z (updX Y (3 + 2 + 2 * k) (putN (Y (3 + 2 + 2 * k)) j true)) _ _
  refine ⟨by rw [List.length_set]; exact h.len, fun c hc => by rw [updX_off _ _ (by omega)]; exact h.hi c hc, fun q hq => ?_, fun q x hq hx => ?_, fun q hq x hx => ?_, ?_⟩
  · by_cases e : q = k
    · subst e; rw [updX_at, putN_length]; exact h2
    · rw [updX_off _ _ (by omega)]; exact h.siz q hq
  · rw [bb_set (by rw [h.len]; omega)]
    by_cases e : q = k
    · subst e
      rw [updX_at, hasN_put (by rw [h2]; omega)]
      by_cases e3 : x = j
      · rw [if_pos (by rw [e3]), if_pos e3]
      · rw [if_neg (fun e4 => e3 (ino_one hx hj e4).2), if_neg e3]; exact h.rel q x hq hx
    · rw [updX_off _ _ (by omega), if_neg (fun e4 => e (ino_one hx hj e4).1)]; exact h.rel q x hq hx
  · rw [updX_off _ _ (by omega)]; exact h.dz q hq x hx
  · rw [tak_put hk hj (by rw [h2]; omega) hh, h.tk]
/-- all is taken; one block of them is deferred, and then free again -/
theorem all_back (hZ : BackIn g Z L (g * 16) 0) {LI : List Bool} (h : InoIn g Z Y LI (g * 8)) (hg : g ≤ 8) {k j : Nat} (hk : k < g) (hj : j < 16) (ok : Ok g 8 16) (near : Int) :
    deferCode Y (21 + 2 + 2 * k) j = 0 ∧ groupI g 8 16 (deferX Y (21 + 2 + 2 * k) j) near false < 0 ∧
    defTo (deferX Y (21 + 2 + 2 * k) j) 3 8 g + defTo (deferX Y (21 + 2 + 2 * k) j) 21 16 g = 1 ∧ FirstAt g 8 16 (allFirm g 8 16 (deferX Y (21 + 2 + 2 * k) j)) near false k j := by
  have hT : ∀ q, q < g → ∀ x, x < 16 → hasN (Y (21 + 2 + 2 * q)) x = true := fun q hq x hx => by
    rw [h.hi _ (by omega)]
    have hs : ∀ i, i < g → cntF (hasN (Z (21 + 2 + 2 * i))) 16 = 16 := by
      have ht := free_tak Z 21 16 g
      rw [hZ.tk] at ht
      have hz : freeTo Z 21 16 g = 0 := by omega
      rw [freeTo_sum] at hz
      intro i hi
      have h1 := sumTo_zero hz i hi
      have h2 := freeN_F Z 21 16 i
      omega
    exact cntF_all (hs q hq) x hx
  have hD : ∀ q, q < g → ∀ x, x < 16 → hasN (Y (21 + 2 + 2 * q + 1)) x = false := fun q hq x hx => by
    rw [h.hi _ (by omega)]
    have hz := hZ.gn
    rw [defTo_sum] at hz
    have h1 := sumTo_zero hz q hq
    cases hh : hasN (Z (21 + 2 + 2 * q + 1)) x
    · rfl
    · have hc : ∀ m, x < m → 0 < cntF (hasN (Z (21 + 2 + 2 * q + 1))) m := by
        intro m
        induction m with
        | zero => intro h; omega
        | succ m ih =>
          intro hm
          unfold cntF
          by_cases e : x = m
          · subst e; rw [hh, if_pos rfl]; omega
          · have := ih (by omega); omega
      have h2 := hc 16 hx
      omega
  have hLn : (Y (21 + 2 + 2 * k + 1)).length = 2 := by rw [h.hi _ (by omega)]; exact (hZ.siz k hk).2
  have hh := hT k hk j hj
  have hd := hD k hk j hj
  have e1 : deferX Y (21 + 2 + 2 * k) j = updX Y (21 + 2 + 2 * k + 1) (putN (Y (21 + 2 + 2 * k + 1)) j true) := if_pos ⟨hh, hd⟩
  have hdef : ∀ q, q < g → ∀ x, x < 16 → hasN (deferX Y (21 + 2 + 2 * k) j (21 + 2 + 2 * q + 1)) x = decide (q = k ∧ x = j) := fun q hq x hx => by
    rw [e1]
    by_cases e : q = k
    · subst e
      rw [updX_at, hasN_put (by rw [hLn]; omega)]
      by_cases e3 : x = j
      · rw [if_pos e3]; exact (decide_eq_true ⟨rfl, e3⟩).symm
      · rw [if_neg e3, hD q hq x hx]; exact (decide_eq_false (fun h => e3 h.2)).symm
    · rw [updX_off _ _ (by omega), hD q hq x hx]; exact (decide_eq_false (fun h => e h.1)).symm
  have htak : ∀ q, deferX Y (21 + 2 + 2 * k) j (21 + 2 + 2 * q) = Y (21 + 2 + 2 * q) := fun q => by rw [e1]; exact updX_off _ _ (by omega)
  have hlow : ∀ c, c < 21 → deferX Y (21 + 2 + 2 * k) j c = Y c := fun c hc => by rw [e1]; exact updX_off _ _ (by omega)
  have ht0 : takTo Y 21 16 g = g * 16 := by rw [← hZ.tk]; exact tak_off fun q hq => h.hi _ (by omega)
  have hd3 : defTo (deferX Y (21 + 2 + 2 * k) j) 3 8 g = 0 := def_zero fun q hq x hx => by rw [hlow _ (by omega)]; exact h.dz q hq x hx
  have hd21 : defTo (deferX Y (21 + 2 + 2 * k) j) 21 16 g = 1 := by
    rw [e1, def_put hk hj (by rw [hLn]; omega) hd]
    rw [def_zero fun q hq x hx => hD q hq x hx]
  have hfull : takTo (deferX Y (21 + 2 + 2 * k) j) 21 16 g = g * 16 := by rw [← ht0]; exact tak_off fun q hq => htak q
  obtain ⟨D, hDD⟩ : ∃ D, deferX Y (21 + 2 + 2 * k) j = D := ⟨_, rfl⟩
  rw [hDD] at hdef htak hlow hd3 hd21 hfull ⊢
  refine ⟨if_pos ⟨hh, hd⟩, group_zero near false ?_, by rw [hd3, hd21], ?_⟩
  · have h2 := free_tak D 21 16 g
    rw [hfull] at h2
    show freeTo D 21 16 g = 0
    omega
  · have o1 : ∀ c, 21 ≤ c → firmX D 3 8 g c = D c := fun c hc => firmX_off D 3 8 g c (by omega)
    have hall : ∀ q, q < g → ∀ x, x < 16 → hasN (allFirm g 8 16 D (21 + 2 + 2 * q)) x = !decide (q = k ∧ x = j) := fun q hq x hx => by
      show hasN (firmX (firmX D 3 8 g) 21 16 g (21 + 2 + 2 * q)) x = _
      rw [firm_has hq, o1 _ (by omega), o1 _ (by omega), htak, hT q hq x hx, hdef q hq x hx, decide_eq_true hx]
      rfl
    have hpos : 0 < freeTo (allFirm g 8 16 D) 21 16 g := by
      have h2 := free_tak (allFirm g 8 16 D) 21 16 g
      have f21 := tak_firm (X := firmX D 3 8 g) (o := 21) (e := 16) (n := g) (fun q hq x hx hy => by rw [o1 _ (by omega), htak]; exact hT q hq x hx)
      rw [def_off (Y := D) (fun q hq => o1 _ (by omega)), tak_off (X := firmX D 3 8 g) (Y := D) (fun q hq => o1 _ (by omega)), hd21, hfull] at f21
      have e3 : takTo (allFirm g 8 16 D) 21 16 g = takTo (firmX (firmX D 3 8 g) 21 16 g) 21 16 g := rfl
      omega
    obtain ⟨k2, j2, hf⟩ := group_some (X := allFirm g 8 16 D) near false ok hpos
    have hfr := hf.free
    have hj2 : j2 < 16 := hf.lt
    rw [show polO false + 2 + 2 * k2 = 21 + 2 + 2 * k2 from rfl, hall k2 hf.kg j2 hj2] at hfr
    have he : k2 = k ∧ j2 = j := by
      have := hfr
      simpa using this
    rw [he.1, he.2] at hf
    exact hf
end Go.Proofs.Ytdkjmpicdkfgoaa
