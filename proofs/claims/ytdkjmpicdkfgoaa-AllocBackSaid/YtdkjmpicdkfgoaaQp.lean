/-
  What is marked, deferred, and firm is free again: the numbers.
-/
import Derived.Test.YtdkjmpicdkfgoaaQo
namespace Go.Proofs.Ytdkjmpicdkfgoaa
open Go.RowKit BigFrame Fl

/-- where a block's mark lies -/
def pK (k j : Nat) : Nat := 5 + 19 * k + j
theorem pK_pos (k j : Nat) : posN 8 16 21 k j = pK k j := by unfold posN pK; rw [if_neg (by decide), show spanN 8 16 = 19 from rfl]; omega
theorem pK_one {k j k2 j2 : Nat} (hj : j < 16) (hj2 : j2 < 16) (h : pK k j = pK k2 j2) : k = k2 ∧ j = j2 := by unfold pK at h; omega
theorem pK_lt {g k j : Nat} (hk : k < g) (hj : j < 16) : pK k j < 2 + g * 19 := by unfold pK; omega
/-- what a law knows: which blocks are taken, by its own list; how many are taken, how many deferred; no inode is -/
structure BackIn (g : Nat) (Y : Nat → List Nat) (L : List Bool) (tk gn : Nat) : Prop where
  len : L.length = 2 + g * 19
  low : ∀ c, c < 21 → Y c = X0 8 16 c
  siz : ∀ k, k < g → (Y (21 + 2 + 2 * k)).length = 2 ∧ (Y (21 + 2 + 2 * k + 1)).length = 2
  rel : ∀ k j, k < g → j < 16 → bb L (pK k j) = hasN (Y (21 + 2 + 2 * k)) j
  sub : ∀ k j, k < g → j < 16 → hasN (Y (21 + 2 + 2 * k + 1)) j = true → hasN (Y (21 + 2 + 2 * k)) j = true
  tk : takTo Y 21 16 g = tk
  gn : defTo Y 21 16 g = gn
variable {g : Nat} {Y : Nat → List Nat} {L : List Bool} {tk gn : Nat}
theorem x0_has (i b c x : Nat) : hasN (X0 i b c) x = false := hasN_zs _ _
theorem tak_none {o e n : Nat} (h : ∀ k, k < n → ∀ j, j < e → hasN (Y (o + 2 + 2 * k)) j = false) : takTo Y o e n = 0 := by
  unfold takTo
  rw [← Nat.mul_zero n, ← sumTo_const 0 n]
  refine sumTo_congr fun k hk => ?_
  have := cntF_congr (h := hasN (Y (o + 2 + 2 * k))) (d := fun _ => false) (n := e) (fun j hj => h k hk j hj)
  rw [this]
  clear this h
  induction e with
  | zero => rfl
  | succ e ih => unfold cntF; rw [ih]; rfl
theorem BackIn.start (g : Nat) : BackIn g (X0 8 16) (List.replicate (2 + g * 19) false) 0 0 :=
  ⟨by simp, fun _ _ => rfl, fun k _ => by unfold X0; rw [zs_length, zs_length, show wid 8 16 (21 + 2 + 2 * k) = 16 from if_neg (by omega), show wid 8 16 (21 + 2 + 2 * k + 1) = 16 from if_neg (by omega)]; exact ⟨rfl, rfl⟩,
    fun k j _ _ => by rw [bb_rep, x0_has], fun k j _ _ h => (by rw [x0_has] at h; cases h),
    tak_none fun k _ j _ => x0_has _ _ _ _, def_zero fun k _ j _ => x0_has _ _ _ _⟩
theorem BackIn.again (_h : BackIn g Y L tk gn) {k j : Nat} (hh : hasN (Y (21 + 2 + 2 * k)) j = true) : markCode Y (21 + 2 + 2 * k) j = 6 ∧ markX Y (21 + 2 + 2 * k) j = Y := by
  unfold markCode markX
  rw [if_pos hh, if_pos hh]
  exact ⟨rfl, rfl⟩
theorem BackIn.mark (h : BackIn g Y L tk gn) {k j : Nat} (hk : k < g) (hj : j < 16) (hh : hasN (Y (21 + 2 + 2 * k)) j = false) :
    markCode Y (21 + 2 + 2 * k) j = 0 ∧ BackIn g (markX Y (21 + 2 + 2 * k) j) (L.set (pK k j) true) (tk + 1) gn ∧ hasN (markX Y (21 + 2 + 2 * k) j (21 + 2 + 2 * k)) j = true ∧ hasN (markX Y (21 + 2 + 2 * k) j (21 + 2 + 2 * k + 1)) j = false := by
  have e : ¬ hasN (Y (21 + 2 + 2 * k)) j = true := by rw [hh]; decide
  have h2 := (h.siz k hk).1
  have hp := pK_lt hk hj
  unfold markCode markX
  rw [if_neg e, if_neg e]
  refine ⟨rfl, ⟨by rw [List.length_set]; exact h.len, fun c hc => by rw [updX_off _ _ (by omega)]; exact h.low c hc, fun q hq => ?_, fun q x hq hx => ?_, fun q x hq hx hd => ?_, ?_, ?_⟩, ?_, ?_⟩
  · rw [updX_off _ _ (show 21 + 2 + 2 * q + 1 ≠ 21 + 2 + 2 * k by omega)]
    refine ⟨?_, (h.siz q hq).2⟩
    by_cases e : q = k
    · subst e; rw [updX_at, putN_length]; exact h2
    · rw [updX_off _ _ (by omega)]; exact (h.siz q hq).1
  · rw [bb_set (by rw [h.len]; exact hp)]
    by_cases e : q = k
    · subst e
      rw [updX_at, hasN_put (by rw [h2]; omega)]
      by_cases e3 : x = j
      · rw [if_pos (by rw [e3]), if_pos e3]
      · rw [if_neg (fun e4 => e3 (pK_one hx hj e4).2), if_neg e3]; exact h.rel q x hq hx
    · rw [updX_off _ _ (by omega), if_neg (fun e4 => e (pK_one hx hj e4).1)]; exact h.rel q x hq hx
  · rw [updX_off _ _ (by omega)] at hd
    have ht := h.sub q x hq hx hd
    by_cases e : q = k
    · subst e
      rw [updX_at, hasN_put (by rw [h2]; omega)]
      split
      · rfl
      · exact ht
    · rw [updX_off _ _ (by omega)]; exact ht
  · rw [tak_put hk hj (by rw [h2]; omega) hh, h.tk]
  · rw [← h.gn]; exact def_off fun q hq => updX_off _ _ (by omega)
  · rw [updX_at, hasN_put (by rw [h2]; omega), if_pos rfl]
  · rw [updX_off _ _ (by omega)]
    cases hd : hasN (Y (21 + 2 + 2 * k + 1)) j
    · rfl
    · rw [h.sub k j hk hj hd] at hh; cases hh
theorem BackIn.defer (h : BackIn g Y L tk gn) {k j : Nat} (hk : k < g) (hj : j < 16) (hh : hasN (Y (21 + 2 + 2 * k)) j = true) (hd : hasN (Y (21 + 2 + 2 * k + 1)) j = false) :
    deferCode Y (21 + 2 + 2 * k) j = 0 ∧ BackIn g (deferX Y (21 + 2 + 2 * k) j) L tk (gn + 1) ∧ hasN (deferX Y (21 + 2 + 2 * k) j (21 + 2 + 2 * k)) j = true := by
  have h2 := (h.siz k hk).2
  unfold deferCode deferX
  rw [if_pos ⟨hh, hd⟩, if_pos ⟨hh, hd⟩]
  refine ⟨rfl, ⟨h.len, fun c hc => by rw [updX_off _ _ (by omega)]; exact h.low c hc, fun q hq => ?_, fun q x hq hx => ?_, fun q x hq hx hy => ?_, ?_, ?_⟩, ?_⟩
  · rw [updX_off _ _ (show 21 + 2 + 2 * q ≠ 21 + 2 + 2 * k + 1 by omega)]
    refine ⟨(h.siz q hq).1, ?_⟩
    by_cases e : q = k
    · subst e; rw [updX_at, putN_length]; exact h2
    · rw [updX_off _ _ (by omega)]; exact (h.siz q hq).2
  · rw [updX_off _ _ (by omega)]; exact h.rel q x hq hx
  · rw [updX_off _ _ (show 21 + 2 + 2 * q ≠ 21 + 2 + 2 * k + 1 by omega)]
    by_cases e : q = k
    · subst e
      rw [updX_at, hasN_put (by rw [h2]; omega)] at hy
      by_cases e3 : x = j
      · rw [e3]; exact hh
      · rw [if_neg e3] at hy; exact h.sub q x hq hx hy
    · rw [updX_off _ _ (by omega)] at hy; exact h.sub q x hq hx hy
  · rw [← h.tk]; exact tak_off fun q hq => updX_off _ _ (by omega)
  · rw [def_put hk hj (by rw [h2]; omega) hd, h.gn]
  · rw [updX_off _ _ (by omega)]; exact hh
theorem BackIn.left (h : BackIn g Y L tk gn) (hg : g ≤ 8) : leftN g 8 16 Y true = g * 8 ∧ leftN g 8 16 Y false + tk = g * 16 ∧ gn ≤ tk := by
  have h1 := free_tak Y 3 8 g
  have h2 := free_tak Y 21 16 g
  have h3 := tak_firm (X := Y) (o := 21) (e := 16) (n := g) (fun k hk j hj => h.sub k j hk hj)
  rw [tak_none (fun k hk j hj => by rw [h.low _ (by omega)]; exact x0_has _ _ _ _)] at h1
  rw [h.tk] at h2 h3
  rw [h.gn] at h3
  exact ⟨h1, h2, by omega⟩
theorem BackIn.firm (h : BackIn g Y L tk gn) (hg : g ≤ 8) : defTo Y 3 8 g + defTo Y 21 16 g = gn ∧ leftN g 8 16 (allFirm g 8 16 Y) true = g * 8 ∧ leftN g 8 16 (allFirm g 8 16 Y) false + tk = g * 16 + gn ∧ defTo (allFirm g 8 16 Y) 3 8 g + defTo (allFirm g 8 16 Y) 21 16 g = 0 := by
  have d3 : defTo Y 3 8 g = 0 := def_zero fun k hk j hj => by rw [h.low _ (by omega)]; exact x0_has _ _ _ _
  have t3 : takTo Y 3 8 g = 0 := tak_none fun k hk j hj => by rw [h.low _ (by omega)]; exact x0_has _ _ _ _
  have o1 : ∀ c, 21 ≤ c → firmX Y 3 8 g c = Y c := fun c hc => firmX_off Y 3 8 g c (by omega)
  have o2 : ∀ c, c < 23 → allFirm g 8 16 Y c = firmX Y 3 8 g c := fun c hc => firmX_off _ 21 16 g c (by omega)
  have f3 := tak_firm (X := Y) (o := 3) (e := 8) (n := g) (fun k hk j hj hy => by rw [h.low _ (by omega), x0_has] at hy; cases hy)
  have f21 := tak_firm (X := firmX Y 3 8 g) (o := 21) (e := 16) (n := g) (fun k hk j hj hy => by rw [o1 _ (by omega)] at hy ⊢; exact h.sub k j hk hj hy)
  rw [def_off (Y := Y) (fun k hk => o1 _ (by omega)), tak_off (X := firmX Y 3 8 g) (Y := Y) (fun k hk => o1 _ (by omega)), h.gn, h.tk] at f21
  have a1 := free_tak (allFirm g 8 16 Y) 3 8 g
  have a2 := free_tak (allFirm g 8 16 Y) 21 16 g
  rw [tak_off (Y := firmX Y 3 8 g) (fun k hk => o2 _ (by omega))] at a1
  have e1 : leftN g 8 16 (allFirm g 8 16 Y) true = freeTo (allFirm g 8 16 Y) 3 8 g := rfl
  have e2 : leftN g 8 16 (allFirm g 8 16 Y) false = freeTo (allFirm g 8 16 Y) 21 16 g := rfl
  have e3 : takTo (allFirm g 8 16 Y) 21 16 g = takTo (firmX (firmX Y 3 8 g) 21 16 g) 21 16 g := rfl
  have z3 : defTo (allFirm g 8 16 Y) 3 8 g = 0 := by
    rw [def_off (Y := firmX Y 3 8 g) (fun k hk => o2 _ (by omega))]
    exact def_zero fun k hk j hj => by rw [firmX_deferred Y 3 8 hk]; exact hasN_zs _ _
  have z21 : defTo (allFirm g 8 16 Y) 21 16 g = 0 := def_zero fun k hk j hj => by
    show hasN (firmX (firmX Y 3 8 g) 21 16 g (21 + 2 + 2 * k + 1)) j = false
    rw [firmX_deferred _ 21 16 hk]; exact hasN_zs _ _
  rw [d3, h.gn, z3, z21]
  refine ⟨by omega, by omega, by omega, rfl⟩
end Go.Proofs.Ytdkjmpicdkfgoaa
