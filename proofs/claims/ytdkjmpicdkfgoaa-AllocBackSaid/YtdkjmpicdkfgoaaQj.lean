/-
  A new space.
-/
import Derived.Test.YtdkjmpicdkfgoaaQi
import Derived.Test.YtdkjmpicdkfgoaaGb

namespace Go.Proofs.Ytdkjmpicdkfgoaa
open Go.RowKit BigFrame Fl

/-- a pool of nothing, as cells -/
def pz (n e : Int) : List Value := .int .i64 n :: .int .i64 e :: List.replicate 16 (.slice none 0 0)
theorem Try.infoPool : (Try.prog.info? 62).map (fun i => (i.zero, i.size)) = some (some (.agg (pz 0 0).toArray), 18) := by kernel_rfl
theorem Try.sizePool : (Try.prog.info? 62).map (·.size) = some 18 := by kernel_rfl
theorem Try.sizeSet : (Try.prog.info? 59).map (·.size) = some 2 := by kernel_rfl
theorem bdQ_of (ps : Array (Nat × Value)) : Instr.build 62 ps = bdA 62 ps := rfl
theorem bdS_of (ps : Array (Nat × Value)) : Instr.build 59 ps = bdA 59 ps := rfl
theorem ldQ_of (v : Value) : Instr.loadAt 62 v = ldA 62 v := rfl
theorem stQ_of (p v : Value) : Instr.storeAt 62 p v = stA 62 p v := rfl
theorem stS_of (p v : Value) : Instr.storeAt 59 p v = stA 59 p v := rfl
theorem run_bdQ (w : World) (n e : Int) : (bdA 62 #[(0, .int .i64 n), (1, .int .i64 e)]).run Try.prog w = .ok (.agg (pz n e).toArray) w := by
  unfold bdA
  exact run_build w _ _ _ (by kernel_rfl)
theorem run_bdS (w : World) (a c : Option Addr) (n m p q : Nat) : (bdA 59 #[(0, .slice a n p), (1, .slice c m q)]).run Try.prog w = .ok (.agg #[.slice a n p, .slice c m q]) w := by
  unfold bdA
  exact run_build w _ _ _ (by kernel_rfl)
theorem wpList_alloc_pool {w : World} {ops : Array Oper} {rest : List Oper} {o : Oper} {a : Act} {Q : Exit → Act → World → Prop} (hgd : o.guard = none) (ho : o.op = .alloc 62)
    (h : ∀ g w1, Hid (Vw w1 62 g (pz 0 0)) → w.heap.size ≤ g → Below w.heap.size w w1 → wpList Try.prog ops Q rest (a.put o.dst (.pointer (some ⟨g, 0, none⟩))) w1) : wpList Try.prog ops Q (o :: rest) a w := by
  refine wpList_plain hgd fun K hK => ?_
  have hz := (zero_of_info Try.infoPool).1 w
  unfold Oper.wp
  simp [execOp, ho, Instr.alloc, Sem.run_bind, hz, newVar, Value.cells, Result.andThen]
  exact hK _ _ (h _ _ (heap_alloc_new w _) (Nat.le_refl _) ((Below.refl _ _).alloc (Nat.le_refl _) _))

/-- cells of a pool: the first k groups' sets lie in blocks of their own, from block B on -/
structure EmptyIn (w : World) (B : Nat) (n e k : Nat) (M : List Value) : Prop where
  len : M.length = 18
  m0 : M[0]? = some (.int .i64 (n : Int))
  m1 : M[1]? = some (.int .i64 (e : Int))
  one : ∀ v, v ∈ M → v.oneCell' = true
  set : ∀ c, 2 ≤ c → c < 2 + 2 * k → ∃ q, M[c]? = some (.slice (some ⟨q, 0, none⟩) ((e + 7) / 8) ((e + 7) / 8)) ∧ B ≤ q ∧ q < w.heap.size ∧ BAt w (some ⟨q, 0, none⟩) (zs ((e + 7) / 8))
variable {w w' : World} {B n e k : Nat} {M : List Value}
theorem EmptyIn.turn {G : List Nat} (h : EmptyIn w B n e k M) (hT : TurnF G w w') (hG : ∀ g, g ∈ G → g < B) : EmptyIn w' B n e k M :=
  ⟨h.len, h.m0, h.m1, h.one, fun c h1 h2 => by
    obtain ⟨q, e1, e2, e3, e4⟩ := h.set c h1 h2
    exact ⟨q, e1, e2, Nat.lt_of_lt_of_le e3 hT.size, e4.same (hT.block q e3 fun hq => by have := hG q hq; omega)⟩⟩
theorem EmptyIn.below (h : EmptyIn w B n e k M) (hb : Below w.heap.size w w') : EmptyIn w' B n e k M := h.turn (TurnF.of_below [] hb) (fun _ hg => by cases hg)
theorem EmptyIn.lower {B' : Nat} (h : EmptyIn w B n e k M) (hB : B' ≤ B) : EmptyIn w B' n e k M :=
  ⟨h.len, h.m0, h.m1, h.one, fun c h1 h2 => by
    obtain ⟨q, e1, e2, e3, e4⟩ := h.set c h1 h2
    exact ⟨q, e1, Nat.le_trans hB e2, e3, e4⟩⟩
theorem pz_one (n e : Int) : ∀ v, v ∈ pz n e → v.oneCell' = true := by
  intro v hv
  simp only [pz, List.mem_cons, List.mem_replicate] at hv
  rcases hv with rfl | rfl | ⟨_, rfl⟩ <;> rfl
theorem EmptyIn.start (w : World) (B n e : Nat) : EmptyIn w B n e 0 (pz n e) :=
  ⟨rfl, rfl, rfl, pz_one _ _, fun c h1 h2 => by omega⟩
theorem splice_two (M : List Value) (c : Nat) (a b : Value) (h : c + 2 ≤ M.length) : splice M c [a, b] = (M.set c a).set (c + 1) b := by
  rw [← splice_cons _ _ _ _ (by omega), ← splice_cons _ _ _ _ (by rw [List.length_set]; omega)]
  simp [splice]
theorem EmptyIn.next (h : EmptyIn w B n e k M) (hk : 2 + 2 * k + 2 ≤ 18) {q1 q2 : Nat} (h1 : B ≤ q1) (h2 : B ≤ q2) (l1 : q1 < w.heap.size) (l2 : q2 < w.heap.size) (b1 : BAt w (some ⟨q1, 0, none⟩) (zs ((e + 7) / 8))) (b2 : BAt w (some ⟨q2, 0, none⟩) (zs ((e + 7) / 8))) :
    EmptyIn w B n e (k + 1) (splice M (2 + 2 * k) [.slice (some ⟨q1, 0, none⟩) ((e + 7) / 8) ((e + 7) / 8), .slice (some ⟨q2, 0, none⟩) ((e + 7) / 8) ((e + 7) / 8)]) := by
  rw [splice_two _ _ _ _ (by rw [h.len]; omega)]
  have hl := h.len
  refine ⟨by simp [hl], ?_, ?_, ?_, fun c g1 g2 => ?_⟩
  · rw [List.getElem?_set, if_neg (by omega), List.getElem?_set, if_neg (by omega)]; exact h.m0
  · rw [List.getElem?_set, if_neg (by omega), List.getElem?_set, if_neg (by omega)]; exact h.m1
  · intro v hv
    rcases List.mem_or_eq_of_mem_set hv with hv | rfl
    · rcases List.mem_or_eq_of_mem_set hv with hv | rfl
      · exact h.one v hv
      · rfl
    · rfl
  · by_cases e1 : c = 2 + 2 * k + 1
    · exact ⟨q2, by rw [List.getElem?_set, if_pos e1.symm, if_pos (by rw [List.length_set]; omega)], h2, l2, b2⟩
    · by_cases e2 : c = 2 + 2 * k
      · exact ⟨q1, by rw [List.getElem?_set, if_neg (by omega), List.getElem?_set, if_pos e2.symm, if_pos (by omega)], h1, l1, b1⟩
      · obtain ⟨q, e3, e4, e5, e6⟩ := h.set c g1 (by omega)
        exact ⟨q, by rw [List.getElem?_set, if_neg (by omega), List.getElem?_set, if_neg (by omega)]; exact e3, e4, e5, e6⟩

theorem set_one (a c : Option Addr) (n m p q : Nat) : ([.slice a n p, .slice c m q] : List Value).toArray.all (·.oneCell') = true := all_oneCell_toArray (fun v hv => by
  simp only [List.mem_cons, List.mem_nil_iff, or_false] at hv
  rcases hv with rfl | rfl <;> rfl)
theorem TurnF.cells (F : List Nat) {a : Nat} (ha : a ∈ F) : ∀ (vs : List Value) (w : World) (o : Nat), TurnF F w (w.setCells a o vs)
  | [], _w, _ => TurnF.refl _ _
  | v :: r, w, o => (TurnF.set F w ha o v).trans (TurnF.cells F ha r (w.setCell ⟨a, o, none⟩ v) (o + 1))
def EmptyRel (w : World) (n e a q : Nat) (gk : Nat) (I : Value) (wr : World) : Prop :=
  ∃ (k : Nat) (M : List Value), k + gk = n ∧ I = .int .i64 (k : Int) ∧ Vw wr 62 q M ∧ Vw wr 62 a (pz 0 0) ∧ EmptyIn wr (q + 1) n e k M ∧ Below w.heap.size w wr
def EmptyPost (w : World) (n e : Nat) (r : Ending) (w' : World) : Prop := ∃ M, r = .returned (.agg M.toArray) ∧ EmptyIn w' w.heap.size n e n M ∧ Below w.heap.size w w'
theorem pool_ret {fn : Func} {p : Tmp} (h : fn.results = #[.cell p 62]) {tmps : Array Value} {w : World} {a : Nat} {M : List Value} (hp : tmps.getD p undef = .pointer (some ⟨a, 0, none⟩)) (hV : Vw w 62 a M) (hM : M.length = 18) :
    (results fn tmps).run Try.prog w = .ok (.agg M.toArray) w := by
  have hp' : tmps[p]?.getD undef = .pointer (some ⟨a, 0, none⟩) := by simpa using hp
  simp [results, h, hp', asAddr, run_loadVar_row w a _ 62 _ _ _ hV Try.underlying62 rfl (by rw [Try.sizePool]; simp [hM])]
attribute [local go_sem ↓] bdQ_of bdS_of ldQ_of stQ_of stS_of
set_option maxHeartbeats 2000000 in
theorem empty_c (N E : Int) (w : World) (hN : N = (n : Int)) (hE : E = (e : Int)) (hn : n ≤ 8) (he : e ≤ 96) :
    Calls Try.prog 31 #[.int .i64 N, .int .i64 E] w (EmptyPost w n e) := by
  subst hN; subst hE
  have hbq := run_bdQ
  have hbs := run_bdS
  have tk0 : True := trivial
  go_enter Try.func31, Try.ntmps31
  go_wp2_with (first
    | (clear tk0; refine wpList_alloc_pool rfl rfl ?_; intro a w1 hv1 hg1 hb1; have V1 := Lib.hid hv1.out; have B1 := Lib.hid hb1; clear hv1 hb1)
    | (refine wpList_alloc_pool rfl rfl ?_; intro q w2 hv2 hg2 hb2; have hst := run_stW (t := 62) (g := q) (o := 0) (w := w2) (m := pz (n : Int) (e : Int)) 18 rfl (all_oneCell_toArray (pz_one _ _)) (hv2.out.there (o := 0) (n := 18) (by decide)) Try.sizePool; have V2 := Lib.hid (hv2.out.over (m := pz (n : Int) (e : Int)) rfl); have V3 := Lib.hid (V1.out.on' (below_setCells hb2 hg2 0 (pz (n : Int) (e : Int)))); have B2 := Lib.hid (B1.out.trans ((below_setCells hb2 hg2 0 (pz (n : Int) (e : Int))).mono B1.out.size)); clear hv2 hb2))
  have haq : a < q := Nat.lt_of_lt_of_le V1.out.lt hg2
  go_loopg [11] n (fun gk I wr => EmptyRel w n e a q gk I wr)
  case atStart => exact ⟨0, _, by omega, rfl, V2.out, V3.out, EmptyIn.start _ _ _ _, B2.out⟩
  case round =>
    obtain ⟨k, M, hk, rfl, hV, hA, hE, hB⟩ := hrel
    clear V2 V3 B2 hst hbq
    by_cases hlt : k < n
    · obtain ⟨gn, rfl⟩ : ∃ n, gk = n + 1 := ⟨gk - 1, by omega⟩
      have V4 := Lib.hid hV
      have A4 := Lib.hid hA
      have E4 := Lib.hid hE
      have B4 := Lib.hid hB
      have k0 : (0 : Int) ≤ (k : Int) := by omega
      have k8 : (k : Int) < 8 := by omega
      have kn : (k : Int) < (n : Int) := by omega
      have ea : Hid (2 + k * 2 = 2 + 2 * k) := Lib.hid (by omega)
      have hth := Lib.hid (hV.there (o := 2 + k * 2) (n := 2) (by rw [hE.len]; omega))
      clear hV hA hE hB
      have tk1 : True := trivial
      go_wp2_with (first
        | (clear tk1; go_at_call 57; refine (of_is none 0 e 0 ((e + 7) / 8) _ (fun _ => 0) _ _ rfl rfl (by omega) rfl (by omega) (.inl rfl)).mono ?_; rintro e2 w5 ⟨q5, rfl, hq5, hr5, hb5⟩; have R5 := Lib.hid hr5; have B5 := Lib.hid hb5; clear hr5 hb5))
      refine (of_is none 0 e 0 ((e + 7) / 8) _ (fun _ => 0) _ _ rfl rfl (by omega) rfl (by omega) (.inl rfl)).mono ?_
      rintro e2 w6 ⟨q6, rfl, hq6, hr6, hb6⟩
      have R6 := Lib.hid hr6
      have B6 := Lib.hid (below_two B5.out hb6)
      have R56 := Lib.hid (R5.out.on hb6 R5.out.lt)
      have hst := run_stW (t := 59) (g := q) (o := 2 + k * 2) (w := w6) (m := [.slice (some ⟨q5, 0, none⟩) ((e + 7) / 8) ((e + 7) / 8), .slice (some ⟨q6, 0, none⟩) ((e + 7) / 8) ((e + 7) / 8)]) 2 rfl (set_one _ _ _ _ _ _) ((V4.out.on' B6.out).there (o := 2 + k * 2) (n := 2) (by rw [E4.out.len]; omega)) Try.sizeSet
      clear hr6 hb6
      go_wp2_with fail
      have hq5' : q + 1 ≤ q5 := by have := V4.out.lt; omega
      have hq6' : q + 1 ≤ q6 := by have := V4.out.lt; have := B5.out.size; omega
      have l5 := R56.out.lt
      have l6 := R6.out.lt
      have hT : TurnF [q] w6 (w6.setCells q (2 + 2 * k) [.slice (some ⟨q5, 0, none⟩) ((e + 7) / 8) ((e + 7) / 8), .slice (some ⟨q6, 0, none⟩) ((e + 7) / 8) ((e + 7) / 8)]) := (TurnF.set [q] _ (by simp) _ _).trans (TurnF.set [q] _ (by simp) _ _)
      have E6 := (E4.out.below B6.out).next (by omega) hq5' hq6' l5 l6 R56.out.bat R6.out.bat
      have E7 := Lib.hid (E6.turn hT (fun g hg => by simp at hg; omega))
      have V7 := Lib.hid ((V4.out.on' B6.out).put [.slice (some ⟨q5, 0, none⟩) ((e + 7) / 8) ((e + 7) / 8), .slice (some ⟨q6, 0, none⟩) ((e + 7) / 8) ((e + 7) / 8)] (2 + 2 * k) (by rw [E4.out.len]; show 2 + 2 * k + 2 ≤ 18; omega))
      have A7 := Lib.hid ((A4.out.on' B6.out).turnF hT (by simp; omega))
      have B7 := Lib.hid (below_setCells (B4.out.trans (B6.out.mono B4.out.size)) (Nat.le_trans hg1 (Nat.le_of_lt haq)) (2 + 2 * k) [.slice (some ⟨q5, 0, none⟩) ((e + 7) / 8) ((e + 7) / 8), .slice (some ⟨q6, 0, none⟩) ((e + 7) / 8) ((e + 7) / 8)])
      clear E6 hT
      rw [ea.out]
      go_roundg gn
      case measure => omega
      case rel => exact ⟨k + 1, _, by omega, by go_num, V7.out, A7.out, E7.out, B7.out⟩
    · obtain rfl : gk = 0 := by omega
      obtain rfl : k = n := by omega
      have hld := run_ldW (t := 62) (g := q) (o := 0) (w := wr) (l := M) 18 _ (hV.whole) hE.len Try.underlying62 rfl Try.sizePool
      have hst := run_stW (t := 62) (g := a) (o := 0) (w := wr) (m := M) 18 hE.len (all_oneCell_toArray hE.one) (hA.there (o := 0) (n := 18) (by decide)) Try.sizePool
      have VA := Lib.hid (hA.over (m := M) (by rw [hE.len]; rfl))
      have hT : TurnF [a] wr (wr.setCells a 0 M) := TurnF.cells [a] (by simp) _ _ _
      have EA := Lib.hid ((hE.turn hT (fun g hg => by simp at hg; omega)).lower (show w.heap.size ≤ q + 1 by omega))
      have BA := Lib.hid (below_setCells hB hg1 0 M)
      clear hV hA hE hB hT
      go_wp2_with fail
      exact bodyPost_ret (pool_ret rfl rfl VA.out EA.out.len) rfl ⟨M, rfl, EA.out, BA.out⟩
end Go.Proofs.Ytdkjmpicdkfgoaa
