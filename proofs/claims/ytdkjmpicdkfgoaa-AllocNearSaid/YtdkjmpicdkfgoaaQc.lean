/-
  What a group is worth; the group that is best.
-/
import Derived.Test.YtdkjmpicdkfgoaaQb
import Derived.Test.YtdkjmpicdkfgoaaF6
import Derived.Deep.LoopGhost

namespace Go.Proofs.Ytdkjmpicdkfgoaa
open Go.RowKit BigFrame Fl

/-- the score of a group as a float -/
def scF (f e : Nat) : Nat := if f = 0 then 9221120237041090561 else (Ieee.double.div (ofN f) (ofN e)).getD 0
theorem scF_pos {f e : Nat} (h0 : 0 < f) (hf : f ≤ 1000000) (he : e ≤ 1000000) (e0 : e ≠ 0) : Ieee.double.div (ofN f) (ofN e) = some (scF f e) ∧ 0 < scF f e ∧ scF f e < I := by
  obtain ⟨r, h1, h2, h3⟩ := share_pos h0 hf he e0
  have e : scF f e = r := by unfold scF; rw [if_neg (by omega), h1]; rfl
  rw [e]
  exact ⟨h1, h2, h3⟩
theorem scF_key {f e : Nat} (hf : f ≤ 1000000) (he : e ≤ 1000000) (e0 : e ≠ 0) : key (scF f e) = kS f e false ∧ Fits (scF f e) := by
  by_cases h0 : f = 0
  · subst h0
    rw [kS_zero]
    exact ⟨key_nan (show nanB 9221120237041090561 = true by decide), show (9221120237041090561 : Nat) < 2 ^ 64 by decide⟩
  · obtain ⟨h1, h2, h3⟩ := scF_pos (f := f) (e := e) (by omega) hf he e0
    have hS : S = 9223372036854775808 := rfl
    have := I_lt_S
    refine ⟨?_, by unfold Fits; omega⟩
    unfold kS
    rw [if_neg h0, h1]
    rfl
/-- twice it: a number, or none -/
theorem scF_twice {f e : Nat} (hf : f ≤ 1000000) (he : e ≤ 1000000) (e0 : e ≠ 0) : (f = 0 ∧ Ieee.double.mul (scF f e) twoF = none ∧ kS f e true = kN) ∨ ∃ q, Ieee.double.mul (scF f e) twoF = some q ∧ key q = kS f e true ∧ Fits q := by
  by_cases h0 : f = 0
  · subst h0
    exact .inl ⟨rfl, twice_nan (show nanB 9221120237041090561 = true by decide), kS_zero _ _⟩
  · obtain ⟨h1, h2, h3⟩ := scF_pos (f := f) (e := e) (by omega) hf he e0
    obtain ⟨q, h4, h5⟩ := twice_num h3
    refine .inr ⟨q, h4, ?_, (le_num h5).2⟩
    unfold kS
    rw [if_neg h0, h1]
    simp only [if_true, h4]

variable {w w' : World} {F : List Nat} {s g i b : Nat} {X : Nat → List Nat} {o e : Nat}
set_option maxHeartbeats 400000 in
theorem score_c (k : Nat) (h : PolAt w F s g i b X o e) (hk : k < g) (f : Nat) (hf : freeN X o e k = f) :
    Calls Try.prog 61 #[.pointer (some ⟨s, o, none⟩), .int .i64 (k : Int)] w (Told (.float .f64 (scF f e)) w) := by
  have hfe := freeN_le X o e k
  rw [hf] at hfe
  have he := h.e96
  have he1 := h.e1
  have h' := Lib.hid h
  have hf' := Lib.hid (show ((f : Nat) : Int) = ((freeN X o e k : Nat) : Int) by rw [hf])
  clear h hf
  by_cases h0 : f = 0
  · subst h0
    go_enter Try.func61, Try.ntmps61
    go_wp2_with (first
      | (go_at_call 60; refine (freeIn_c k h'.out hk _ hf'.out).mono ?_; rintro e w1 ⟨rfl, m1, rfl⟩)
      | (go_at_call 43; refine (nan_any _).mono ?_; rintro e w' ⟨rfl, rfl⟩))
    go_ret
    exact ⟨rfl, _, rfl⟩
  · have d0 : (((f : Nat) : Int) == 0) = false := by rw [beq_eq_false_iff_ne]; omega
    have hq := Lib.hid (scF_pos (f := f) (e := e) (by omega) (by omega) (by omega) (by omega)).1
    have c2 := fun m => (h'.out.sp.drew m).ce h'.out.pol
    go_enter Try.func61, Try.ntmps61
    go_wp2_with (first
      | (go_at_call 60; refine (freeIn_c k h'.out hk _ hf'.out).mono ?_; rintro e w1 ⟨rfl, m1, rfl⟩; have c3 := c2 m1)
      | (go_at_call 77; refine (share_c f e _ _ (scF f e) _ hq.out rfl rfl).mono ?_; rintro e w' ⟨rfl, rfl⟩))
    go_ret
    exact ⟨rfl, _, rfl⟩

/-- what the groups are worth, one of them near -/
def kf (X : Nat → List Nat) (o e : Nat) (near : Int) (k : Nat) : Int := kS (freeN X o e k) e (decide ((k : Int) = near))
/-- floats as cells -/
def fv (l : List Nat) : List Value := l.map (Value.float .f64)
theorem fv_length (l : List Nat) : (fv l).length = l.length := by simp [fv]
theorem fv_get {l : List Nat} {k : Nat} (h : k < l.length) : (fv l)[k]? = some (.float .f64 (fl l k)) := by simp [fv, fl, List.getD, h]
theorem fv_set (l : List Nat) (k x : Nat) : (fv l).set k (.float .f64 x) = fv (l.set k x) := by simp [fv, List.map_set]
theorem fl_set {l : List Nat} {k j x : Nat} (h : k < l.length) : fl (l.set k x) j = if j = k then x else fl l j := by
  unfold fl
  simp only [List.getD, List.getElem?_set]
  by_cases e : k = j
  · subst e; simp [h]
  · rw [if_neg e, if_neg (Ne.symm e)]
theorem made_floats (n : Nat) : madeCells #[Value.float .f64 0] n = (fv (List.replicate n 0)).toArray := by
  apply Array.ext
  · simp [size_madeCells, fv]
  · intro k h1 h2
    simp [madeCells, fv, Nat.mod_one]
theorem Try.infoFl : (Try.prog.info? 72).map (fun i => (i.zero, i.size, i.bytes)) = some (some (.float .f64 0), 1, 8) := by kernel_rfl
theorem wpList_make_floats {w : World} {ops : Array Oper} {rest : List Oper} {o : Oper} {a : Act} {Q : Exit → Act → World → Prop} (hg : o.guard = none) (l c : Operand) (hop : o.op = Op.makeSlice 71 l c)
    (n : Nat) (hl : a.eval l = .int .i64 (n : Int)) (hc : a.eval c = .int .i64 (n : Int)) (hn : n ≤ 1000000)
    (hK : ∀ g w1, Hid (Vw w1 72 g (fv (List.replicate n 0))) → w.heap.size ≤ g → Below w.heap.size w w1 → wpList Try.prog ops Q rest (a.put o.dst (.slice (some ⟨g, 0, none⟩) n n)) w1) :
    wpList Try.prog ops Q (o :: rest) a w := by
  obtain ⟨i, hi, hz0, hz1, hz2⟩ := info_parts Try.infoFl
  refine wpList_make_row w hg l c 71 hop 72 i (.float .f64 0) Try.underlying71 hi hz0 hz1 rfl .i64 .i64 n hl hc (by rw [hz2]; omega) (by omega) ?_
  rw [made_floats]
  exact hK _ _ (heap_alloc_new w _) (Nat.le_refl _) ((Below.refl _ _).alloc (Nat.le_refl _) _)

/-- the first j scores are told -/
structure BestIn (w : World) (g : Nat) (X : Nat → List Nat) (o e q : Nat) (near : Int) (j : Nat) (xs : List Nat) (wr : World) : Prop where
  row : Vw wr 72 q (fv xs)
  len : xs.length = g
  told : ∀ k, k < j → key (fl xs k) = kf X o e near k ∧ Fits (fl xs k)
  lo : w.heap.size ≤ q
  bl : Below w.heap.size w wr
theorem BestIn.put {q : Nat} {near : Int} {j : Nat} {xs : List Nat} {wr : World} (h : BestIn w g X o e q near j xs wr) (hj : j < g) (y : Nat) :
    BestIn w g X o e q near j (xs.set j y) (wr.setCell ⟨q, j, none⟩ (.float .f64 y)) :=
  ⟨by rw [← fv_set]; exact h.row.set j _, by rw [List.length_set]; exact h.len, fun k hk => by rw [fl_set (by rw [h.len]; exact hj), if_neg (by omega)]; exact h.told k hk, h.lo, h.bl.setCell h.lo _⟩
theorem BestIn.next {q : Nat} {near : Int} {j : Nat} {xs : List Nat} {wr : World} (h : BestIn w g X o e q near j xs wr) (hk : key (fl xs j) = kf X o e near j ∧ Fits (fl xs j)) : BestIn w g X o e q near (j + 1) xs wr :=
  ⟨h.row, h.len, fun k hk2 => by
    by_cases e : k = j
    · rw [e]; exact hk
    · exact h.told k (by omega), h.lo, h.bl⟩
theorem BestIn.drew {q : Nat} {near : Int} {j : Nat} {xs : List Nat} {wr : World} (h : BestIn w g X o e q near j xs wr) (m : Nat) : BestIn w g X o e q near j xs (wr.drewN m) := ⟨h.row, h.len, h.told, h.lo, bl_drew' h.bl⟩
theorem fl_same {xs : List Nat} {j y : Nat} (h : j < xs.length) : fl (xs.set j y) j = y := by rw [fl_set h, if_pos rfl]

theorem run_store_float {P : Program} {w : World} {a : Addr} {m : Mode} (k : FloatKind) (n : Nat) : (store a (.float k n) m).run P w = stored P w a (.float k n) m := run_store P w a _ m rfl
attribute [local go_sem] run_store_float
def BestRel (w : World) (g : Nat) (X : Nat → List Nat) (o e q : Nat) (near : Int) (gk : Nat) (I : Value) (wr : World) : Prop :=
  ∃ (j : Nat) (xs : List Nat), j + gk = g ∧ I = .int .i64 (j : Int) ∧ BestIn w g X o e q near j xs wr
set_option maxHeartbeats 1000000 in
theorem best_c (near : Int) (h : PolAt w F s g i b X o e) :
    Calls Try.prog 41 #[.pointer (some ⟨s, o, none⟩), .int .i64 near] w (Tells (.int .i64 (bestI (kf X o e near) g)) w) := by
  have c1 := h.sp.cn h.pol
  have he := h.e96
  have he1 := h.e1
  have hg8 := h.g8
  have h' := Lib.hid h
  clear h
  go_enter Try.func41, Try.ntmps41
  go_wp2_with (at_make; refine wpList_make_floats rfl _ _ rfl g rfl rfl (by omega) ?_; intro q w1 hr1 hg1 hb1; have B1 := Lib.hid (show BestIn w g X o e q near 0 (List.replicate g 0) w1 from ⟨hr1.out, by simp, fun k hk => by omega, hg1, hb1⟩); clear hb1 hr1)
  go_loopg [14] g (fun gk I wr => BestRel w g X o e q near gk I wr)
  case atStart => exact ⟨0, _, by omega, rfl, B1.out⟩
  case round =>
    obtain ⟨j, xs, hj, rfl, hB⟩ := hrel
    clear B1
    by_cases hlt : j < g
    · obtain ⟨gn, rfl⟩ : ∃ n, gk = n + 1 := ⟨gk - 1, by omega⟩
      obtain ⟨f, hf⟩ : ∃ f, freeN X o e j = f := ⟨_, rfl⟩
      have hfe := freeN_le X o e j
      rw [hf] at hfe
      have P1 := Lib.hid (h'.out.below hB.bl)
      have lt1 : (j : Int) < (g : Int) := by omega
      have lt0 : (0 : Int) ≤ (j : Int) := by omega
      obtain ⟨hk1, hk2⟩ := scF_key (f := f) (e := e) (by omega) (by omega) (by omega)
      have fq := hB.row.frozen j
      have cq := hB.row.cell (k := j) (fv_get (by rw [hB.len]; exact hlt))
      have hP := Lib.hid (fun m => (hB.drew m).put hlt (scF f e))
      have hlen := Lib.hid hB.len
      have hf' := Lib.hid hf
      have hk' := Lib.hid hk1
      have hk2' := Lib.hid hk2
      clear hf hB hk1 hk2
      by_cases hn : (j : Int) = near
      · subst hn
        have dn : ((j : Int) == (j : Int)) = true := by rw [beq_iff_eq]
        rcases scF_twice (f := f) (e := e) (by omega) (by omega) (by omega) with ⟨hf0, hm, hkk⟩ | ⟨y, hm, hkk, hy⟩
        · clear hf0
          have hq := fun w => run_mul_nan 72 (scF f e) 4611686018427387904 hm w
          have hr := Lib.hid (fun w => nanAt_res w (scF f e) 4611686018427387904)
          have hkf := Lib.hid (show kf X o e (j : Int) j = kN by unfold kf; rw [hf'.out, decide_eq_true rfl]; exact hkk)
          clear hm hkk
          go_wp2_with (go_at_call 61; refine (score_c j P1.out hlt f hf'.out).mono ?_; rintro e w2 ⟨rfl, m2, rfl⟩; have B3 := Lib.hid (hP.out m2); clear hP)
          go_roundg gn
          case measure => omega
          case rel => exact ⟨j + 1, _, by omega, by go_num, ((B3.out.put hlt _).next (by rw [fl_same (by rw [List.length_set, hlen.out]; exact hlt)]; exact ⟨by rw [hkf.out]; exact key_nan (hr.out _).2, (hr.out _).1⟩)).drew 1⟩
        · have hq := fun w => run_mul_some 72 (scF f e) 4611686018427387904 y hm w
          have hkf := Lib.hid (show key y = kf X o e (j : Int) j by unfold kf; rw [hf'.out, decide_eq_true rfl]; exact hkk)
          clear hm hkk
          go_wp2_with (go_at_call 61; refine (score_c j P1.out hlt f hf'.out).mono ?_; rintro e w2 ⟨rfl, m2, rfl⟩; have B3 := Lib.hid (hP.out m2); clear hP)
          go_roundg gn
          case measure => omega
          case rel => exact ⟨j + 1, _, by omega, by go_num, ((B3.out.put hlt y)).next (by rw [fl_same (by rw [List.length_set, hlen.out]; exact hlt)]; exact ⟨hkf.out, hy⟩)⟩
      · have dn : ((j : Int) == near) = false := by rw [beq_eq_false_iff_ne]; exact hn
        have hkf := Lib.hid (show key (scF f e) = kf X o e near j by unfold kf; rw [hf'.out, decide_eq_false hn]; exact hk'.out)
        go_wp2_with (go_at_call 61; refine (score_c j P1.out hlt f hf'.out).mono ?_; rintro e w2 ⟨rfl, m2, rfl⟩; have B3 := Lib.hid (hP.out m2); clear hP)
        go_roundg gn
        case measure => omega
        case rel => exact ⟨j + 1, _, by omega, by go_num, B3.out.next (by rw [fl_same (by rw [hlen.out]; exact hlt)]; exact ⟨hkf.out, hk2'.out⟩)⟩
    · obtain rfl : gk = 0 := by omega
      obtain rfl : j = g := by omega
      have hl' := Lib.hid hB.len
      have hA := Lib.hid (show FAt wr (some ⟨q, 0, none⟩) xs from .inr ⟨q, 0, rfl, fun k hk => by rw [Nat.zero_add]; exact hB.row.cell (fv_get hk), fun k hk => (hB.told k (by rw [hB.len] at hk; exact hk)).2⟩)
      have hres := Lib.hid (show bestOf xs j = bestI (kf X o e near) j by rw [bestOf_key]; exact bestI_congr fun k hk => (hB.told k hk).1)
      have B2 := Lib.hid hB.bl
      have hbs := Lib.hid (fun cap => hl'.out ▸ best_sl (some ⟨q, 0, none⟩) cap xs wr hA.out (by rw [hl'.out]; omega))
      clear hB
      go_wp2_with (go_at_call 62; refine (hbs.out _).mono ?_; rw [hres.out]; rintro e w3 ⟨rfl, rfl⟩)
      go_ret
      exact ⟨rfl, B2.out⟩
end Go.Proofs.Ytdkjmpicdkfgoaa
