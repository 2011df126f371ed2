/-
  Twenty-one numbers in a variable; what each of so many needs, as bits.
  What needs which, as bits say: the graph's links, the levels, and what is written beside them.
  Numbers from 0 to below n.
  How a law is closed: a walk that answers true, and leaves all that was there as it was, gives the given statement (in a seat without bytes).
-/
import Derived.Test.YtgkmmdkagiohgaaB12
import Derived.Deep.LoopGhost
import Derived.Deep.WholeRow
import Derived.Laws.BitsAllLaws
import Derived.Test.YtgkmmdkagiohgaaB1
import Derived.WalkKit
import Derived.ProofKit
import Derived.OpenShut
import Derived.Deep.DeepHandedRow
import Derived.LaidMore
import Derived.Stop.LaidErr
import Derived.SizedLaws

section
set_option linter.unusedVariables false
set_option linter.unusedSimpArgs false
namespace Go.Proofs.Ytgkmmdkagiohgaa
open Go.RowKit BigFrame
set_option maxRecDepth 100000
variable {w w' wr w0 : World} {W B a M : Nat} {G : Gr} {ρ : Nat → Nat} {ids : List Nat} {dn : Nat → List Nat}

theorem Try.sizeU : (Try.prog.info? 29).map (·.size) = some 21 := by kernel_rfl
theorem Try.infoU : (Try.prog.info? 29).map (fun i => (i.zero, i.size)) = some (some (av (zz 21)), 21) := by kernel_rfl
theorem ldU_of (v : Value) : Instr.loadAt 29 v = ldA 29 v := rfl
theorem stU_of (p v : Value) : Instr.storeAt 29 p v = stA 29 p v := rfl
theorem run_ldU {w : World} {g o : Nat} {l : List Int} (hr : w.rangeAt g o (iv l)) (hl : l.length = 21) : (ldA 29 (.pointer (some ⟨g, o, none⟩))).run Try.prog w = .ok (av l) w :=
  run_ldA 21 _ hr hl Try.underlying29 rfl Try.sizeU
theorem run_stU {w : World} {g o : Nat} {m : List Int} (hm : m.length = 21) (ht : w.there g o 21) : (stA 29 (.pointer (some ⟨g, o, none⟩)) (av m)).run Try.prog w = .ok () (w.setCells g o (iv m)) :=
  run_stA 21 hm ht Try.sizeU
theorem zero_U (w : World) : (zeroValue 29).run Try.prog w = .ok (av (zz 21)) w := (zero_of_info Try.infoU).1 w
theorem wpList_alloc_U {w : World} {ops : Array Oper} {rest : List Oper} {o : Oper} {a : Act} {Q : Exit → Act → World → Prop} (hgd : o.guard = none) (ho : o.op = .alloc 29)
    (h : ∀ g w1, Hid (Vi w1 29 g (zz 21)) → g = w.heap.size → Below w.heap.size w w1 → wpList Try.prog ops Q rest (a.put o.dst (.pointer (some ⟨g, 0, none⟩))) w1) : wpList Try.prog ops Q (o :: rest) a w := by
  refine wpList_plain hgd fun K hK => ?_
  have hz := zero_U w
  unfold Oper.wp
  simp [execOp, ho, Instr.alloc, Sem.run_bind, hz, newVar, Value.cells, av, Result.andThen]
  exact hK _ _ (h _ _ (heap_alloc_new w _) rfl ((Below.refl _ _).alloc (Nat.le_refl _) _))
theorem u_ret {fn : Func} {p : Tmp} (h : fn.results = #[.cell p 29]) {tmps : Array Value} {w : World} {a : Nat} {L : List Int} (hp : tmps.getD p undef = .pointer (some ⟨a, 0, none⟩)) (hV : Vi w 29 a L) (hL : L.length = 21) :
    (results fn tmps).run Try.prog w = .ok (av L) w := by
  have hp' : tmps[p]?.getD undef = .pointer (some ⟨a, 0, none⟩) := by simpa using hp
  simp [results, h, hp', asAddr, run_loadVar_row w a _ 29 _ _ _ hV Try.underlying29 rfl (by rw [Try.sizeU]; simp [iv_length, hL]), av]
theorem tmod_nat (i n : Nat) : Int.tmod (i : Int) (n : Int) = ((i % n : Nat) : Int) := by
  rw [Int.tmod_eq_emod_of_nonneg (by omega)]; rfl

section
attribute [local go_sem ↓] ldU_of stU_of
set_option maxHeartbeats 4000000 in
theorem wants_c {ad : Option Addr} {n cap : Nat} {R : Nat → Int} (many : Nat) (hm : many ≤ 20) (hR : IntsAt w ad n R) :
    Calls Try.prog 10 #[.int .i64 (many : Int), .slice ad n cap] w (fun e w' => ∃ L, e = .returned (av L) ∧ L.length = 21 ∧ Below w.heap.size w w') := by
  have hR' := Lib.hid hR
  have tk := Lib.hid True.intro
  clear hR
  obtain ⟨Z, hZ⟩ : ∃ Z, zz 21 = Z := ⟨_, rfl⟩
  have hZl := Lib.hid (show Z.length = 21 by rw [← hZ]; exact zz_length 21)
  have hZ' := Lib.hid hZ
  clear hZ
  go_enter Try.func10, Try.ntmps10
  go_wp2_with (first
    | (have _t := tk; refine wpList_alloc_U rfl rfl ?_; intro g1 w1 hv1 hg1 hb1; rw [hZ'.out] at hv1; subst hg1; have hB1 := Lib.hid hb1; clear hb1 tk)
    | (refine wpList_alloc_U rfl rfl ?_; intro g2 w2 hv2 hg2 hb2; rw [hZ'.out] at hv2; subst hg2; have V1 := Lib.hid (hv1.out.on' hb2); have hB2 := Lib.hid (hB1.out.trans (hb2.mono hB1.out.size)); have hlt := hv1.out.lt; clear hb2))
  obtain ⟨b2, hb2⟩ : ∃ b2, w1.heap.size = b2 := ⟨_, rfl⟩
  rw [hb2] at hv2 hlt ⊢
  have hrel0 := Lib.hid (show ∃ L : List Int, L.length = 21 ∧ Vi w2 29 b2 L ∧ Vi w2 29 w.heap.size Z ∧ Below w.heap.size w w2 from ⟨Z, hZl.out, hv2.out, V1.out, hB2.out⟩)
  have hs1 := hB1.out.size
  have hne : w.heap.size < b2 := hlt
  clear hv1 hv2 V1 hB1 hB2 hb2 hlt
  go_loopg [6] 22 (fun g v6 wr => ∃ i : Nat, 1 ≤ i ∧ i ≤ many + 1 ∧ i + g = 23 ∧ v6 = .int .i64 (i : Int) ∧ ∃ L : List Int, L.length = 21 ∧ Vi wr 29 b2 L ∧ Vi wr 29 w.heap.size Z ∧ Below w.heap.size w wr)
  case atStart => exact ⟨1, by omega, by omega, by omega, rfl, hrel0.out⟩
  case round =>
    obtain ⟨i, hi1, hi2, hig, rfl, L, hLl, hVL, hVZ, hbel⟩ := hrel
    by_cases hc : i ≤ many ∧ 0 < n
    · obtain ⟨h1, h2⟩ := hc
      obtain ⟨g, rfl⟩ : ∃ g, gk = g + 1 := ⟨gk - 1, by omega⟩
      obtain ⟨q, hq⟩ : ∃ q, i % n = q := ⟨_, rfl⟩
      have hqn : q < n := by rw [← hq]; exact Nat.mod_lt _ h2
      have hq20 : q ≤ 20 := by rw [← hq]; exact Nat.le_trans (Nat.mod_le _ _) (by omega)
      have hmod : Int.tmod (i : Int) (n : Int) = ((q : Nat) : Int) := by rw [tmod_nat, hq]
      obtain ⟨gb, off, rfl, hcell⟩ : ∃ gb off, ad = some ⟨gb, off, none⟩ ∧ wr.cell? ⟨gb, off + q, none⟩ = some (.int .i64 (R q)) := by
        rcases hR'.out.on hbel rfl with h0 | ⟨gb, off, e, hx⟩
        · omega
        · exact ⟨gb, off, e, hx q hqn⟩
      have ci := hVL.cell (k := i) (by omega)
      have fi := hVL.frozen i
      have hnz : ¬ (n : Int) = 0 := by omega
      have hend := Lib.hid (show ∃ L' : List Int, L'.length = 21 ∧ Vi (wr.setCell ⟨b2, i, none⟩ (.int .i64 (R q))) 29 b2 L' ∧ Vi (wr.setCell ⟨b2, i, none⟩ (.int .i64 (R q))) 29 w.heap.size Z ∧ Below w.heap.size w (wr.setCell ⟨b2, i, none⟩ (.int .i64 (R q))) from
        ⟨L.set i (R q), by rw [List.length_set]; exact hLl, hVL.set i _, (by unfold Vi; rw [heap_set_other _ ⟨b2, i, none⟩ _ (by show w.heap.size ≠ b2; omega)]; exact hVZ), hbel.setCell (p := ⟨b2, i, none⟩) (by show w.heap.size ≤ b2; omega) _⟩)
      clear hVL hVZ hbel hq
      go_wp2_with fail
      go_roundg g
      case measure => omega
      case rel => exact ⟨i + 1, by omega, by omega, by omega, by go_num, hend.out⟩
    · have hld := run_ldU hVL.whole hLl
      have hst := run_stU (w := wr) hLl (hVZ.there (o := 0) (n := 21) (by rw [hZl.out]; exact Nat.le_refl _))
      unfold av at hld hst
      have hV3 := Lib.hid (hVZ.over (m := L) (by rw [hLl, hZl.out]))
      have hB3 := Lib.hid (below_setCells hbel (Nat.le_refl w.heap.size) 0 (iv L))
      have hLl' := Lib.hid hLl
      have t1 : i ≤ many → decide (0 < n) = false := fun h => decide_eq_false (by omega)
      clear hVL hVZ hbel hLl
      by_cases h1 : i ≤ many
      · have h2 : n = 0 := by omega
        subst h2
        go_wp2_with fail
        exact bodyPost_ret (u_ret rfl rfl hV3.out hLl'.out) rfl ⟨L, rfl, hLl'.out, hB3.out⟩
      · go_wp2_with fail
        exact bodyPost_ret (u_ret rfl rfl hV3.out hLl'.out) rfl ⟨L, rfl, hLl'.out, hB3.out⟩
end
end Go.Proofs.Ytgkmmdkagiohgaa
end

section
set_option linter.unusedVariables false
set_option linter.unusedSimpArgs false
namespace Go.Proofs.Ytgkmmdkagiohgaa
open Go.RowKit BigFrame
set_option maxRecDepth 100000
variable {w w' wr w0 : World} {W B a M : Nat} {G : Gr} {ρ : Nat → Nat} {ids : List Nat} {dn : Nat → List Nat}

/-- a bit, as the walk spells it -/
def bitF (A : Int) (i : Nat) : Bool := bits .and .i64 (A / 2 ^ i) 1 == 1
/-- the numbers from 1 to m -/
def idsN (m : Nat) : List Nat := (List.range m).map (· + 1)
theorem idsN_succ (m : Nat) : idsN (m + 1) = idsN m ++ [m + 1] := by simp [idsN, List.range_succ]
theorem idsN_mem {m x : Nat} : x ∈ idsN m ↔ 1 ≤ x ∧ x ≤ m := by
  unfold idsN
  rw [List.mem_map]
  constructor
  · rintro ⟨y, hy, rfl⟩; have := List.mem_range.1 hy; omega
  · rintro ⟨h1, h2⟩; exact ⟨x - 1, List.mem_range.2 (by omega), by omega⟩
theorem idsN_len (m : Nat) : (idsN m).length = m := by simp [idsN]
/-- what i needs of those below m -/
def upto (L : List Int) (i m : Nat) : List Nat := (List.range m).filter fun k => decide (1 ≤ k) && bitF (zi L i) k
theorem upto_yes {L : List Int} {i m : Nat} (h1 : 1 ≤ m) (h : bitF (zi L i) m = true) : upto L i (m + 1) = upto L i m ++ [m] := by
  unfold upto
  rw [List.range_succ, filter_snoc, if_pos (by rw [h, Bool.and_true]; exact decide_eq_true h1)]
theorem upto_no {L : List Int} {i m : Nat} (h : bitF (zi L i) m = false) : upto L i (m + 1) = upto L i m := by
  unfold upto
  rw [List.range_succ, filter_snoc, if_neg (by rw [h, Bool.and_false]; decide)]
theorem upto_one (L : List Int) (i : Nat) : upto L i 1 = [] := rfl
theorem upto_mem {L : List Int} {i m k : Nat} : k ∈ upto L i m ↔ k < m ∧ 1 ≤ k ∧ bitF (zi L i) k = true := by
  unfold upto
  rw [List.mem_filter, List.mem_range, Bool.and_eq_true, decide_eq_true_eq]
/-- how far the links are laid: those of the lesser ones, and of i those below k -/
def dnAt (L : List Int) (i k j : Nat) : List Nat := if j < i then upto L j j else if j = i then upto L i k else []
theorem dnAt_next (L : List Int) (i j : Nat) : dnAt L (i + 1) 1 j = dnAt L i i j := by
  unfold dnAt
  by_cases h : j < i
  · rw [if_pos h, if_pos (by omega)]
  · rw [if_neg h]
    by_cases e : j = i
    · rw [if_pos e, if_pos (by omega), e]
    · rw [if_neg e, if_neg (by omega)]
      by_cases e2 : j = i + 1
      · rw [if_pos e2, upto_one]
      · rw [if_neg e2]

/-! ### How deep each lies -/
theorem mx_congr {f g : Nat → Nat} {L : List Nat} (h : ∀ y ∈ L, f y = g y) : mx f L = mx g L := by
  have : ∀ (L : List Nat) (m : Nat), (∀ y ∈ L, f y = g y) → L.foldl (fun m y => max m (f y + 1)) m = L.foldl (fun m y => max m (g y + 1)) m := by
    intro L
    induction L with
    | nil => intro m _; rfl
    | cons y r ih =>
      intro m hy
      show r.foldl _ (max m (f y + 1)) = r.foldl _ (max m (g y + 1))
      rw [hy y List.mem_cons_self]
      exact ih _ fun z hz => hy z (List.mem_cons_of_mem _ hz)
  exact this L 0 h
def lvf (L : List Int) : Nat → Nat → Nat
  | 0, _ => 0
  | f + 1, x => mx (lvf L f) (upto L x x)
theorem lvf_same (L : List Int) : ∀ (x f g : Nat), x < f → x < g → lvf L f x = lvf L g x := by
  intro x
  induction x using Nat.strongRecOn with
  | ind x ih =>
    intro f g hf hg
    obtain ⟨f, rfl⟩ : ∃ f', f = f' + 1 := ⟨f - 1, by omega⟩
    obtain ⟨g, rfl⟩ : ∃ g', g = g' + 1 := ⟨g - 1, by omega⟩
    show mx (lvf L f) (upto L x x) = mx (lvf L g) (upto L x x)
    exact mx_congr fun y hy => by
      have := (upto_mem.1 hy).1
      exact ih y this f g (by omega) (by omega)
def lvL (L : List Int) (x : Nat) : Nat := lvf L (x + 1) x
theorem lvL_is (L : List Int) (x : Nat) : lvL L x = mx (lvL L) (upto L x x) := by
  show mx (lvf L x) (upto L x x) = _
  exact mx_congr fun y hy => by
    have := (upto_mem.1 hy).1
    exact lvf_same L y x (y + 1) this (by omega)
/-- all links laid -/
def allN (L : List Int) (many : Nat) (j : Nat) : List Nat := if j ≤ many then upto L j j else []
theorem dnAt_all (L : List Int) (many : Nat) {j : Nat} (hj : 1 ≤ j ∧ j ≤ many) : dnAt L (many + 1) 1 j = upto L j j := by
  unfold dnAt
  rw [if_pos (by omega)]
theorem deepL {L : List Int} {many : Nat} (h : Lv w0 a M ρ G (idsN many) (fun j => upto L j j) w) : Deep G (lvL L) := fun x hx => by
  rw [h.who] at hx
  rw [h.dn x hx]
  exact lvL_is L x

/-! ### What is written: of each that was told, its level -/
/-- those of O that lie in the lists ahead of the p-th, or in its first k -/
def Seen (lv : Nat → Nat) (O l : List Nat) (p k x : Nat) : Prop := x ∈ O ∧ (lv x < p ∨ (lv x = p ∧ x ∈ l.take k))
def LevIs (lv : Nat → Nat) (Q : Nat → Prop) (V : List Int) : Prop := V.length = 21 ∧ ∀ x, x ≤ 20 → (Q x → zi V x = ((lv x + 1 : Nat) : Int)) ∧ (¬ Q x → zi V x = 0)
theorem LevIs.congr {lv : Nat → Nat} {Q Q' : Nat → Prop} {V : List Int} (h : LevIs lv Q V) (e : ∀ x, x ≤ 20 → (Q x ↔ Q' x)) : LevIs lv Q' V :=
  ⟨h.1, fun x hx => ⟨fun hq => (h.2 x hx).1 ((e x hx).2 hq), fun hq => (h.2 x hx).2 fun h2 => hq ((e x hx).1 h2)⟩⟩
theorem LevIs.set {lv : Nat → Nat} {Q : Nat → Prop} {V : List Int} {y : Nat} (h : LevIs lv Q V) (hy : y ≤ 20) : LevIs lv (fun x => Q x ∨ x = y) (V.set y ((lv y + 1 : Nat) : Int)) := by
  refine ⟨by rw [List.length_set]; exact h.1, fun x hx => ?_⟩
  have hl := h.1
  rw [zi_set (by omega)]
  by_cases e : x = y
  · subst e
    rw [if_pos rfl]
    exact ⟨fun _ => rfl, fun hn => absurd (.inr rfl) hn⟩
  · rw [if_neg e]
    refine ⟨fun hq => ?_, fun hn => (h.2 x hx).2 fun hq => hn (.inl hq)⟩
    rcases hq with hq | hq
    · exact (h.2 x hx).1 hq
    · exact absurd hq e
theorem seen_next {lv : Nat → Nat} {O l : List Nat} {p k y : Nat} (hl : l[k]? = some y) (hyO : y ∈ O) (hyl : lv y = p) (x : Nat) : (Seen lv O l p k x ∨ x = y) ↔ Seen lv O l p (k + 1) x := by
  unfold Seen
  rw [take_snoc hl]
  constructor
  · rintro (⟨h1, h2 | ⟨h2, h3⟩⟩ | rfl)
    · exact ⟨h1, .inl h2⟩
    · exact ⟨h1, .inr ⟨h2, List.mem_append.2 (.inl h3)⟩⟩
    · exact ⟨hyO, .inr ⟨hyl, by simp⟩⟩
  · rintro ⟨h1, h2 | ⟨h2, h3⟩⟩
    · exact .inl ⟨h1, .inl h2⟩
    · rcases List.mem_append.1 h3 with h3 | h3
      · exact .inl ⟨h1, .inr ⟨h2, h3⟩⟩
      · simp at h3; exact .inr h3
theorem seen_list {lv : Nat → Nat} {O l l' : List Nat} {p n : Nat} (hn : n = l.length) (hl : ∀ z, z ∈ l ↔ z ∈ O ∧ lv z = p) (x : Nat) : Seen lv O l p n x ↔ Seen lv O l' (p + 1) 0 x := by
  unfold Seen
  rw [List.take_of_length_le (by omega)]
  constructor
  · rintro ⟨h1, h2 | ⟨h2, _⟩⟩
    · exact ⟨h1, .inl (by omega)⟩
    · exact ⟨h1, .inl (by omega)⟩
  · rintro ⟨h1, h2 | ⟨_, h3⟩⟩
    · by_cases e : lv x = p
      · exact ⟨h1, .inr ⟨e, (hl x).2 ⟨h1, e⟩⟩⟩
      · exact ⟨h1, .inl (by omega)⟩
    · simp at h3
/-- how many of O lie ahead of the p-th list -/
def cntL (lv : Nat → Nat) (O : List Nat) (p : Nat) : Nat := (O.filter fun x => decide (lv x < p)).length
theorem cntL_succ (lv : Nat → Nat) (p : Nat) : ∀ O : List Nat, cntL lv O (p + 1) = cntL lv O p + (O.filter fun x => decide (lv x = p)).length
  | [] => rfl
  | x :: r => by
    have ih := cntL_succ lv p r
    unfold cntL at *
    rw [List.filter_cons, List.filter_cons, List.filter_cons]
    by_cases h1 : lv x < p
    · rw [if_pos (by simpa using by omega), if_pos (by simpa using h1), if_neg (by simpa using by omega)]
      simp only [List.length_cons]; omega
    · by_cases h2 : lv x = p
      · rw [if_pos (by simpa using by omega), if_neg (by simpa using by omega), if_pos (by simpa using h2)]
        simp only [List.length_cons]; omega
      · rw [if_neg (by simpa using by omega), if_neg (by simpa using by omega), if_neg (by simpa using h2)]
        exact ih
theorem cntL_all {lv : Nat → Nat} {O : List Nat} {p : Nat} (h : ∀ x ∈ O, lv x < p) : cntL lv O p = O.length := by
  unfold cntL
  rw [List.filter_eq_self.2 fun x hx => decide_eq_true (h x hx)]
theorem cntL_zero (lv : Nat → Nat) (O : List Nat) : cntL lv O 0 = 0 := by
  unfold cntL
  rw [List.filter_eq_nil_iff.2 fun x _ => by simp]
  rfl
theorem srt_filter {lv : Nat → Nat} {O : List Nat} {LL : List (List Nat)} {p : Nat} {l : List Nat} (h : LvOk lv O LL) (hl : (LL.map srt)[p]? = some l) : (∀ z, z ∈ l ↔ z ∈ O ∧ lv z = p) ∧ l.length = (O.filter fun x => decide (lv x = p)).length ∧ (O.Nodup → l.Nodup) := by
  rw [List.getElem?_map] at hl
  cases hq : LL[p]? with
  | none => rw [hq] at hl; cases hl
  | some q =>
    rw [hq] at hl
    have hl' : srt q = l := Option.some.inj hl
    have hp := (List.getElem?_eq_some_iff.1 hq).1
    have := h.at' p hp
    rw [hq] at this
    have hqf := Option.some.inj this
    subst hl'
    rw [hqf]
    refine ⟨fun z => by rw [srt_mem, List.mem_filter, decide_eq_true_eq], srt_len _, fun hn => (srt_perm _).nodup_iff.2 (hn.filter _)⟩
theorem lists_few {lv : Nat → Nat} {O : List Nat} {LL : List (List Nat)} (h : LvOk lv O LL) : LL.length ≤ O.length := by
  have := nodup_sub (List.nodup_range (n := LL.length)) (m := O.map lv) fun p hp => by
    obtain ⟨x, hx, e⟩ := h.full p (List.mem_range.1 hp)
    exact List.mem_map.2 ⟨x, hx, e⟩
  simpa using this
theorem LsAt.get {ad : Option Addr} {n cap p : Nat} {S : List Value} {F : List (List Nat)} {l : List Nat} (h : LsAt w W (.slice ad n cap) S F) (hn : F.length = n) (hl : F[p]? = some l) :
    ∃ g ax cs, ad = some ⟨g, 0, none⟩ ∧ w.cell? ⟨g, p, none⟩ = some (.slice ax l.length cs) ∧ IntsAt w ax l.length (fun k => ((l.getD k 0 : Nat) : Int)) := by
  have hp := (List.getElem?_eq_some_iff.1 hl).1
  obtain ⟨g, cap', hv, h2⟩ := h.l2 (by omega)
  simp only [Value.slice.injEq] at hv
  obtain ⟨ax, cs, h3, h4⟩ := h2 p l hl
  exact ⟨g, ax, cs, hv.1, h3, h4⟩
/-- the law's own: the graph, what each one needs, the lists, what is written of each -/
structure OSt (w0 : World) (a M : Nat) (G : Gr) (ids : List Nat) (dn : Nat → List Nat) (gn ge B7 : Nat) (L : List Int) (v : Value) (S : List Value) (F : List (List Nat)) (V : List Int) (wr : World) : Prop where
  live : Lv w0 a M ρ G ids dn wr
  need : Vi wr 29 gn L
  lists : LsAt wr B7 v S F
  lev : Vi wr 29 ge V
  free : G.own ge = none
  ne : gn < ge
  hi : ge < B7
  lo : w0.heap.size ≤ ge
theorem OSt.drew {gn ge B7 : Nat} {L V : List Int} {v : Value} {S : List Value} {F : List (List Nat)} (h : OSt (ρ := ρ) w0 a M G ids dn gn ge B7 L v S F V wr) (m : Nat) : OSt (ρ := ρ) w0 a M G ids dn gn ge B7 L v S F V (wr.drewN m) :=
  ⟨h.live.on (below_drewN _ _), h.need, h.lists.blk fun _ _ => rfl, h.lev, h.free, h.ne, h.hi, h.lo⟩
theorem OSt.put {gn ge B7 y : Nat} {x : Int} {L V : List Int} {v : Value} {S : List Value} {F : List (List Nat)} (h : OSt (ρ := ρ) w0 a M G ids dn gn ge B7 L v S F V wr) : OSt (ρ := ρ) w0 a M G ids dn gn ge B7 L v S F (V.set y x) (wr.setCell ⟨ge, y, none⟩ (.int .i64 x)) := by
  have hT := TurnS.set (fun k => k = ge) wr rfl y (.int .i64 x)
  refine ⟨⟨h.live.gr.turn hT fun k ⟨r, hr⟩ e => ?_, h.live.ok, h.live.who, h.live.dn, h.live.bel.setCell (p := ⟨ge, y, none⟩) h.lo _⟩, ?_, h.lists.blk fun k hk => heap_set_other _ ⟨ge, y, none⟩ _ (fun e => ?_), h.lev.set y x, h.free, h.ne, h.hi, h.lo⟩
  · have e' : k = ge := e
    rw [e', h.free] at hr; cases hr
  · have hn := h.need
    unfold Vi at hn ⊢
    rw [heap_set_other _ ⟨ge, y, none⟩ _ (show gn ≠ ge by have := h.ne; omega)]
    exact hn
  · have := (h.lists.block k hk).1
    have := h.hi
    have e' : k = ge := e
    omega
end Go.Proofs.Ytgkmmdkagiohgaa
end

section
set_option linter.unusedVariables false
set_option linter.unusedSimpArgs false
namespace Go.Proofs.Ytgkmmdkagiohgaa
open Go.RowKit

theorem u64_wrap (x : Int) : IntKind.u64.wrap x = x % 18446744073709551616 := IntKind.wrap_u64 x
/-- x as an unsigned number, by n, what is left -/
def lowN (x n : Int) : Int := (x % 18446744073709551616) % n
theorem lowN_bd (x : Int) {n : Int} (hn : 0 < n) : 0 ≤ lowN x n ∧ lowN x n < n := ⟨Int.emod_nonneg _ (by omega), Int.emod_lt_of_pos _ hn⟩

set_option maxHeartbeats 400000 in
theorem low_any (x n : Int) (w : World) (h1 : 0 < n) (h2 : n ≤ 4611686018427387904) :
    Calls Try.prog 6 #[.int .i64 x, .int .i64 n] w fun e w' => e = .returned (.int .i64 (lowN x n)) ∧ w = w' := by
  have hb := Lib.hid (lowN_bd x h1)
  have hn0 : ¬ n = 0 := by omega
  go_enter Try.func6, Try.ntmps6
  go_wp2
  go_ret
  refine ⟨ret_int ?_, rfl⟩
  have h := hb.out
  rw [u64_wrap, tmod_of_emod]
  unfold lowN at *
  generalize x % 18446744073709551616 % n = y at *
  unfold wrap64
  omega
/-- a number from 0 to below n -/
theorem low_nat (x : Int) (n : Nat) (w : World) (h1 : 0 < n) (h2 : n ≤ 1000000) :
    Calls Try.prog 6 #[.int .i64 x, .int .i64 (n : Int)] w fun e w' => ∃ k : Nat, k < n ∧ e = .returned (.int .i64 (k : Int)) ∧ w = w' := by
  refine (low_any x n w (by omega) (by omega)).mono fun e w' ⟨he, hw⟩ => ?_
  have hb := lowN_bd x (n := (n : Int)) (by omega)
  exact ⟨(lowN x n).toNat, by omega, by rw [he]; congr 2; omega, hw⟩
theorem low_c (x C : Int) (n : Nat) (w : World) (hC : C = (n : Int)) (h1 : 0 < n) (h2 : n ≤ 1000000) :
    Calls Try.prog 6 #[.int .i64 x, .int .i64 C] w fun e w' => ∃ k : Nat, k < n ∧ e = .returned (.int .i64 (k : Int)) ∧ w = w' := by
  subst hC; exact low_nat x n w h1 h2
end Go.Proofs.Ytgkmmdkagiohgaa
end

section
set_option linter.unusedVariables false
set_option linter.unusedSimpArgs false
namespace Go.Proofs.Ytgkmmdkagiohgaa
open Go.ChangeShapes Go.WideShapes Go.ChangeAt Go.RowKit

section
variable {H : Type} {enc : TypeId × Value → H} {P : Program}

theorem trodAll_stays (hl : laidOutB P = true) {W W' : World} (hb : Below W.heap.size W W') {sp : Nat → Bool} :
    ∀ {ts : List TypeId} {vs : List Value} {ds : List (DataW H)} {p : List MemPlace}, (ts.all fun t => P.readableRec t && decide (t < P.types.size)) = true →
      DataW.TrodAll enc P W 0 (fun _ => true) true ts vs ds p → (∀ x ∈ p, x.block < W.heap.size) → (∀ x ∈ p, sp x.block = true) → DataW.TrodAll enc P W' 0 sp true ts vs ds p
  | [], _, _, _, _, h, _, _ => by
    obtain ⟨rfl, rfl, rfl⟩ := trodAll_nil h
    exact rfl
  | t :: ts, _, _, _, ht, h, hlt, hs => by
    obtain ⟨v, vs', d, ds', p, q, rfl, rfl, rfl, h1, h2⟩ := trodAll_cons h
    simp only [List.all_cons, Bool.and_eq_true, decide_eq_true_eq] at ht
    exact ⟨p, q, WideElems.Trod_stays hl ht.1.1 ht.1.2 h1 (fun x hx => hb.same (hlt x (List.mem_append_left _ hx))) (fun x hx => hs x (List.mem_append_left _ hx)),
      trodAll_stays hl hb ht.2 h2 (fun x hx => hlt x (List.mem_append_right _ hx)) (fun x hx => hs x (List.mem_append_right _ hx)), rfl⟩

theorem trodAll_length {W : World} {b : Nat} {sp : Nat → Bool} {hd : Bool} : ∀ {ts : List TypeId} {vs : List Value} {ds : List (DataW H)} {p : List MemPlace}, DataW.TrodAll enc P W b sp hd ts vs ds p → ds.length = ts.length
  | [], _, _, _, h => by
    obtain ⟨rfl, rfl, rfl⟩ := trodAll_nil h
    rfl
  | _ :: _, _, _, _, h => by
    obtain ⟨v, vs', d, ds', p, q, rfl, rfl, rfl, _, h2⟩ := trodAll_cons h
    simp [trodAll_length h2]

/-- A LAW's POST out of 'true, and below the old heap nothing has turned'. -/
theorem law_post (hl : laidOutB P = true) {f : Func} {s : ChangeSpec} {tb : TypeId} (hread : (f.params.toList.all fun t => P.readableRec t && decide (t < P.types.size)) = true)
    (hr : f.resultTypes = #[tb]) (htb : P.underlying tb = some .bool) (hv : s.vars = [])
    (hfn : ∀ ds : List (DataW H), ds.length = f.params.toList.length → s.fn H ds = { results := [.lit (.bool true)], args := ds })
    {W W' : World} {args : Array Value} {ds gs : List (DataW H)} {before : List MemPlace}
    (hW : DataW.Whole enc P f.params.toList s.vars false W args.toList ds gs before) (hb : Below W.heap.size W W') :
    s.post enc P f false true false false W args (.bool true) W' := by
  have hW' := hW
  obtain ⟨p, q, hA, hV, rfl, _, _⟩ := hW
  rw [hv] at hV
  obtain ⟨rfl, rfl⟩ := trodVars_none hV
  have hlen := trodAll_length hA
  have hlt : ∀ x ∈ p, x.block < W.heap.size := fun x hx => hW'.lt x (List.mem_append_left _ hx)
  have e := hfn (ds ++ []) (by simpa using hlen)
  refine ⟨ds, [], p ++ [], [], p, [], hW', ?_, ?_, ?_, ?_, fun h => by cases h⟩
  · rw [e, hr]
    exact trodAll_mk1 (shut_bool htb _)
  · rw [e]
    show DataW.TrodAll enc P W' 0 _ true f.params.toList args.toList (ds ++ []) p
    rw [List.append_nil]
    exact trodAll_stays hl hb hread hA hlt (fun x hx => by simpa using hlt x hx)
  · rw [e, hv]
    exact rfl
  · exact hb.frame _

end

theorem own : ownKnob Try.prog.godebug = none := by kernel_rfl
theorem laidOut : laidOutB Try.prog = true := by kernel_rfl

theorem open_u8 {n : Int} (h : (Lit.int .u8 n).wf = true) : ∃ k : Nat, n = (k : Int) ∧ k < 256 := by
  simp only [Lit.wf, Bool.and_eq_true, decide_eq_true_eq] at h
  have h2 : (0 : Int) ≤ n := h.1
  have h3 : n ≤ 255 := h.2
  exact ⟨n.toNat, by omega, by omega⟩
end Go.Proofs.Ytgkmmdkagiohgaa
end
