/-
  A graph in memory: its nodes, each with what it needs and what needs it; whose each block is.
  A set of nodes: one is added: the walk.
  A graph: one set of a node gets one more; two nodes are bound; a new graph; a node is added.
  A new graph; a node is added.
-/
import Derived.Test.YtgkmmdkagiohgaaB3
import Derived.StillTailTactics
import Derived.Deep.DeepCutAuto
import Derived.Deep.CutBlock

section
set_option linter.unusedVariables false
set_option linter.unusedSimpArgs false
namespace Go.Proofs.Ytgkmmdkagiohgaa
open Go.RowKit BigFrame
set_option maxRecDepth 100000

/-- a graph: the nodes that are there; where each lies; its links of either way; as values; whose a block is -/
structure Gr where
  ids : List Nat
  nb : Nat → Nat
  lk : Nat → Nat → List Nat
  s : Nat → Nat → Value
  m : Nat → Nat → Value
  own : Nat → Option Nat
/-- a function of two numbers, turned at one place -/
def up2 {α : Type} (f : Nat → Nat → α) (a b : Nat) (v : α) (x y : Nat) : α := if x = a ∧ y = b then v else f x y
theorem up2_at {α : Type} (f : Nat → Nat → α) (a b : Nat) (v : α) : up2 f a b v a b = v := if_pos ⟨rfl, rfl⟩
theorem up2_off {α : Type} (f : Nat → Nat → α) {a b x y : Nat} (v : α) (h : ¬ (x = a ∧ y = b)) : up2 f a b v x y = f x y := if_neg h

def rowN (i : Nat) (s m : Nat → Value) : List Value := [.int .i64 (i : Int), s 0, m 0, s 1, m 1]
/-- the memory of a graph: the box in block a, the table of its nodes in block M -/
structure GrMem (w : World) (B a M : Nat) (G : Gr) : Prop where
  box : Vw w 46 a [.map (some M)]
  tab : ∃ l, MapAt 3 w M l ∧ l.length = G.ids.length ∧ (∀ x ∈ G.ids, fndL l (.int .i64 (x : Int)) = some (pv (G.nb x))) ∧ ∀ k : Int, (∀ x ∈ G.ids, k ≠ (x : Int)) → fndL l (.int .i64 k) = none
  row : ∀ i ∈ G.ids, Vw w 54 (G.nb i) (rowN i (G.s i) (G.m i))
  set : ∀ i ∈ G.ids, ∀ q, q < 2 → SetIs w B G.nb (G.s i q) (G.m i q) (G.lk q i)
  rb : G.own a = some 0
  rM : G.own M = some 1
  rn : ∀ i ∈ G.ids, G.own (G.nb i) = some (5 * i)
  rs : ∀ i ∈ G.ids, ∀ q, q < 2 → ∀ k, InS (G.s i q) (G.m i q) k → G.own k = some (5 * i + 1 + q)
  hi : ∀ k r, G.own k = some r → B ≤ k ∧ k < w.heap.size
  lo : B ≤ w.heap.size
  pos : ∀ i ∈ G.ids, 1 ≤ i ∧ i ≤ 1000
  nd : G.ids.Nodup
  few : G.ids.length ≤ 500
variable {w w' : World} {B a M : Nat} {G : Gr}
theorem GrMem.turn {S : Nat → Prop} (h : GrMem w B a M G) (hT : TurnS S w w') (hs : ∀ k, (∃ r, G.own k = some r) → ¬ S k) : GrMem w' B a M G := by
  obtain ⟨l, h1, h2⟩ := h.tab
  exact ⟨h.box.turnS hT (hs a ⟨_, h.rb⟩), ⟨l, h1.blk (hT.block M (h.hi _ _ h.rM).2 (hs M ⟨_, h.rM⟩)), h2⟩, fun i hi => (h.row i hi).turnS hT (hs _ ⟨_, h.rn i hi⟩),
    fun i hi q hq => (h.set i hi q hq).turn hT fun k hk => hs k ⟨_, h.rs i hi q hq k hk⟩, h.rb, h.rM, h.rn, h.rs, fun k r hk => ⟨(h.hi k r hk).1, Nat.lt_of_lt_of_le (h.hi k r hk).2 hT.size⟩, Nat.le_trans h.lo hT.size, h.pos, h.nd, h.few⟩
theorem GrMem.on (h : GrMem w B a M G) (hb : Below w.heap.size w w') : GrMem w' B a M G := h.turn (TurnS.of_below (fun _ => False) hb) fun _ _ h => h
theorem GrMem.drew (h : GrMem w B a M G) (m : Nat) : GrMem (w.drewN m) B a M G := h.on ⟨rfl, rfl, rfl, Nat.le_refl _, fun _ _ => rfl⟩
theorem GrMem.drew1 (h : GrMem w B a M G) : GrMem w.drew B a M G := h.drew 1
theorem GrMem.num (h : GrMem w B a M G) {i : Nat} (hi : i ∈ G.ids) : w.cell? ⟨G.nb i, 0, none⟩ = some (.int .i64 (i : Int)) := (h.row i hi).cell (k := 0) rfl
theorem rowN_s {i q : Nat} (hq : q < 2) (s m : Nat → Value) : (rowN i s m)[1 + 2 * q]? = some (s q) := by
  rcases (show q = 0 ∨ q = 1 by omega) with rfl | rfl <;> rfl
theorem rowN_m {i q : Nat} (hq : q < 2) (s m : Nat → Value) : (rowN i s m)[1 + 2 * q + 1]? = some (m q) := by
  rcases (show q = 0 ∨ q = 1 by omega) with rfl | rfl <;> rfl
theorem rowN_set {i q : Nat} (hq : q < 2) (s m : Nat → Nat → Value) (s' m' : Value) : ((rowN i (s i) (m i)).set (1 + 2 * q) s').set (1 + 2 * q + 1) m' = rowN i (up2 s i q s' i) (up2 m i q m' i) := by
  rcases (show q = 0 ∨ q = 1 by omega) with rfl | rfl
  · simp [rowN, up2]
  · simp [rowN, up2]
theorem rowN_off {i j q : Nat} (h : j ≠ i) (s m : Nat → Nat → Value) (s' m' : Value) : rowN j (up2 s i q s' j) (up2 m i q m' j) = rowN j (s j) (m j) := by
  unfold rowN
  simp only [up2_off _ _ (fun hh => h hh.1)]
open Classical in
/-- one set of a node has got one more -/
noncomputable def Gr.put (G : Gr) (i q : Nat) (L : List Nat) (s' m' : Value) (n : Nat) : Gr :=
  { G with lk := fun p j => if p = q ∧ j = i then L else G.lk p j, s := up2 G.s i q s', m := up2 G.m i q m', own := fun k => if n ≤ k ∧ InS s' m' k then some (5 * i + 1 + q) else G.own k }
open Classical in
theorem GrMem.put {i q x : Nat} (h : GrMem w B a M G) (hi : i ∈ G.ids) (hq : q < 2) (hT : TurnS (fun k => k = G.nb i ∨ InS (G.s i q) (G.m i q) k) w w') {s' m' : Value}
    (hV : Vw w' 54 (G.nb i) (((rowN i (G.s i) (G.m i)).set (1 + 2 * q) s').set (1 + 2 * q + 1) m')) (hS : SetIs w' B G.nb s' m' (G.lk q i ++ [x])) (hn : ∀ k, InS s' m' k → InS (G.s i q) (G.m i q) k ∨ w.heap.size ≤ k) :
    GrMem w' B a M (G.put i q (G.lk q i ++ [x]) s' m' w.heap.size) := by
  have hrole : ∀ k r, G.own k = some r → r ≠ 5 * i → r ≠ 5 * i + 1 + q → ¬ (k = G.nb i ∨ InS (G.s i q) (G.m i q) k) := by
    intro k r hk h1 h2 h3
    rcases h3 with rfl | h3
    · have := (h.rn i hi).symm.trans hk; exact h1 (Option.some.inj this).symm
    · have := (h.rs i hi q hq k h3).symm.trans hk; exact h2 (Option.some.inj this).symm
  have hpi := h.pos i hi
  have hold : ∀ k r, G.own k = some r → (G.put i q (G.lk q i ++ [x]) s' m' w.heap.size).own k = some r := by
    intro k r hk
    show (if _ then _ else _) = _
    rw [if_neg (fun hh => by have := (h.hi k r hk).2; omega)]
    exact hk
  obtain ⟨l, t1, t2⟩ := h.tab
  refine ⟨h.box.turnS hT (hrole a 0 h.rb (by omega) (by omega)), ⟨l, t1.blk (hT.block M (h.hi _ _ h.rM).2 (hrole M 1 h.rM (by omega) (by omega))), t2⟩, fun j hj => ?_, fun j hj p hp => ?_, hold _ _ h.rb, hold _ _ h.rM, fun j hj => hold _ _ (h.rn j hj), fun j hj p hp k hk => ?_, fun k r hk => ?_, Nat.le_trans h.lo hT.size, h.pos, h.nd, h.few⟩
  · by_cases e : j = i
    · subst e
      rw [rowN_set hq] at hV
      exact hV
    · show Vw w' _ (G.nb j) (rowN j (up2 G.s i q s' j) (up2 G.m i q m' j))
      rw [rowN_off e]
      have hpj := h.pos j hj
      exact (h.row j hj).turnS hT (hrole _ _ (h.rn j hj) (by omega) (by omega))
  · by_cases e : j = i ∧ p = q
    · obtain ⟨rfl, rfl⟩ := e
      show SetIs w' B G.nb (up2 G.s j p s' j p) (up2 G.m j p m' j p) (if p = p ∧ j = j then _ else _)
      rw [up2_at, up2_at, if_pos ⟨rfl, rfl⟩]
      exact hS
    · show SetIs w' B G.nb (up2 G.s i q s' j p) (up2 G.m i q m' j p) (if p = q ∧ j = i then _ else _)
      rw [up2_off _ _ e, up2_off _ _ e, if_neg (fun hh => e ⟨hh.2, hh.1⟩)]
      refine (h.set j hj p hp).turn hT fun k hk => hrole k _ (h.rs j hj p hp k hk) (by omega) (by omega)
  · by_cases e : j = i ∧ p = q
    · obtain ⟨rfl, rfl⟩ := e
      have hk' : InS s' m' k := by
        have hk2 : InS (up2 G.s j p s' j p) (up2 G.m j p m' j p) k := hk
        rwa [up2_at, up2_at] at hk2
      rcases hn k hk' with h1 | h1
      · exact hold k _ (h.rs j hj p hp k h1)
      · show (if _ then _ else _) = _
        rw [if_pos ⟨h1, hk'⟩]
    · have hk2 : InS (up2 G.s i q s' j p) (up2 G.m i q m' j p) k := hk
      rw [up2_off _ _ e, up2_off _ _ e] at hk2
      exact hold k _ (h.rs j hj p hp k hk2)
  · have hk2 : (if w.heap.size ≤ k ∧ InS s' m' k then some (5 * i + 1 + q) else G.own k) = some r := by
      have : (G.put i q (G.lk q i ++ [x]) s' m' w.heap.size).own k = some r := hk
      exact this
    by_cases e : w.heap.size ≤ k ∧ InS s' m' k
    · exact hS.block k e.2
    · rw [if_neg e] at hk2
      have := h.hi k r hk2
      exact ⟨this.1, Nat.lt_of_lt_of_le this.2 hT.size⟩
end Go.Proofs.Ytgkmmdkagiohgaa
end

section
set_option linter.unusedVariables false
set_option linter.unusedSimpArgs false
namespace Go.Proofs.Ytgkmmdkagiohgaa
open Go.RowKit BigFrame
set_option maxRecDepth 100000

section
variable {w : World} {B b o : Nat} {t : TypeId} {C : List Value} {nb : Nat → Nat} {sl mp : Value} {L : List Nat}
set_option maxHeartbeats 1000000 in
theorem add_c (x : Nat) (hV : Vw w t b C) (h0 : C[o]? = some sl) (h1 : C[o + 1]? = some mp) (h : SetIs w B nb sl mp L) (hB : B ≤ w.heap.size) (hb : ¬ InS sl mp b) (hx : x ≤ 1000000) (hn : L.length ≤ 1000)
    (hi : w.cell? ⟨nb x, 0, none⟩ = some (.int .i64 (x : Int))) (hnx : nb x ≠ b) (hnS : ¬ InS sl mp (nb x)) :
    Calls Try.prog 31 #[.pointer (some ⟨b, o, none⟩), .pointer (some ⟨nb x, 0, none⟩)] w (AddPost B nb b o t C sl mp L x w) := by
  have c0 := hV.cell h0
  have c1 := hV.cell h1
  have hq := Lib.hid (has_c c1 h.mp x hx)
  by_cases hm : x ∈ L
  · have hq' := hq.out
    rw [decide_eq_true hm] at hq'
    have hq2 := Lib.hid hq'
    clear hq hq'
    go_enter Try.func31, Try.ntmps31
    go_wp2_with (go_at_call 19; refine hq2.out.mono ?_; rintro e w2 ⟨rfl, rfl⟩)
    go_ret
    exact ⟨(ret_bool (decide_eq_false (by simpa using hm))).symm, TurnS.refl _ _, fun _ => rfl, fun h => absurd hm h⟩
  · have hq' := hq.out
    rw [decide_eq_false hm] at hq'
    have hq2 := Lib.hid hq'
    have hS := Lib.hid h
    have hmp := h.mp
    have hone := Lib.hid h.one
    have hV' := Lib.hid hV
    have hol : o + 1 < C.length := (List.getElem?_eq_some_iff.1 h1).1
    have fz0 := hV.frozen o
    have fz1 := hV.frozen (o + 1)
    have hbs : sl.ownBlock ≠ some b := fun e => hb (.inl e)
    obtain ⟨n, hLn⟩ : ∃ n, L.length = n := ⟨_, rfl⟩
    obtain ⟨ad, cap, hsv, _⟩ := h.sl.slice
    rw [hLn] at hn hsv
    have hLn' := Lib.hid hLn
    have hsv' := Lib.hid hsv
    have hm' := Lib.hid hm
    clear hq hq' h hV hLn hsv hm
    have e1 := nil_map w
    have R : ∀ w1 C1 m l, (C1 : List Value) = C.set (o + 1) (.map (some m)) → AddMid w1 B nb b t C1 sl m l L o x → TurnS (fun k => k = b ∨ InS sl mp k) w w1 → (InS sl mp m ∨ w.heap.size ≤ m) →
        ∀ w5 sl', AddEnd B nb b o t C1 sl sl' m L x w1 w5 → AddPost B nb b o t C sl mp L x w (.returned (.bool true)) w5 := by
      intro w1 C1 m l hC1 q hT hm2 w5 sl' qe
      have hmc : w1.heap.size ≥ w.heap.size := hT.size
      refine ⟨ret_bool (decide_eq_true hm'.out).symm, hT.then qe.turn ?_, fun h => absurd h hm'.out, fun _ => ⟨sl', .map (some m), ?_, qe.set, ?_⟩⟩
      · intro j hj hd
        rcases hd with h | h | h
        · exact .inl h
        · exact .inr (.inl h)
        · subst h
          rcases hm2 with h | h
          · exact .inr h
          · omega
      · rw [List.set_comm _ _ (by omega), ← hC1]; exact qe.row
      · intro k hk
        rcases hk with hk | hk
        · rcases qe.at' with h | h
          · exact .inl (.inl (h ▸ hk))
          · exact .inr (Nat.le_trans hmc (h k hk))
        · cases hk
          exact hm2
    have R' := Lib.hid R
    clear R
    rcases hmp with ⟨rfl, hL⟩ | ⟨m, l, rfl, hm1, hm2, hm3, hm4⟩
    · have hmm := @run_makeMap Try.prog
      have q0 := Lib.hid (mid_new (x := x) (t := t) hV'.out h0 hol hS.out.sl hL hB hbs hi hnx)
      have hT0 := Lib.hid ((TurnS.alloc (fun k => k = b ∨ InS sl (.map none) k) w (.map #[] 0)).trans (TurnS.set _ (w.alloc (.map #[] 0)) (s := b) (.inl rfl) (o + 1) (.map (some w.heap.size))))
      clear hL
      have g1 := (hV'.out.turnS (TurnS.alloc (fun _ => False) w (.map #[] 0)) (fun h => h)).cell h1
      have g2 := (hV'.out.turnS (TurnS.alloc (fun _ => False) w (.map #[] 0)) (fun h => h)).frozen (o + 1)
      go_enter Try.func31, Try.ntmps31
      go_upto_region 5 with (go_at_call 19; refine hq2.out.mono ?_; rintro e w2 ⟨rfl, rfl⟩)
      have R1 := Lib.hid (R'.out _ _ w.heap.size [] rfl q0.out hT0.out (.inr (Nat.le_refl _)))
      obtain ⟨w1, hw1⟩ : ∃ w1, (w.alloc (.map #[] 0)).setCell ⟨b, o + 1, none⟩ (.map (some w.heap.size)) = w1 := ⟨_, rfl⟩
      obtain ⟨C1, hC1⟩ : ∃ C1, C.set (o + 1) (.map (some w.heap.size)) = C1 := ⟨_, rfl⟩
      obtain ⟨m, hmz⟩ : ∃ m, w.heap.size = m := ⟨_, rfl⟩
      rw [hw1, hC1, hmz] at q0
      rw [hw1, hC1, hmz] at R1
      rw [hw1]
      have hol1 := Lib.hid (show o < C1.length by rw [← hC1, List.length_set]; omega)
      obtain ⟨l, hl⟩ : ∃ l : List (Lit × Value), [] = l := ⟨_, rfl⟩
      rw [hl] at q0
      clear hw1 hC1 hmz hl g1 g2 hmm
      have V1 := q0.out.row
      have k0 := V1.cell q0.out.c0
      have k1 := V1.cell q0.out.c1
      have kx := q0.out.num
      rw [hsv'.out] at k0
      have fz := V1.frozen o
      have M1 := Lib.hid (show MapAt 3 w1.drew m l from q0.out.map)
      have hml := Lib.hid (show l.length < maxLen by rw [q0.out.len, hLn'.out]; unfold maxLen; omega)
      have hE := Lib.hid (fun w2 w4 c ty sl' hm2 ht2 hs4 hg4 hat => R1.out _ sl' (mid_end (w2 := w2) (w4 := w4) (c := c) (ty := ty) q0.out hm'.out hone.out hbs hol1.out (by rw [hLn'.out]; exact hm2) ht2 hs4 hg4 hat))
      have S1 := Lib.hid q0.out.sl
      have hB1 := q0.out.big
      have r1 := q0.out.row.lt
      have n1 := Lib.hid q0.out.ne
      have V1' := Lib.hid V1
      clear V1
      go_still_tail 13, (by kernel_rfl)
      change wpList _ _ _ _ _ w1.drew
      go_wp2_with (first
        | (at_mapUpdate; refine wpList_map_store rfl _ _ _ rfl law_int Try.underlying49 m l rfl M1.out hml.out (.int .i64 (x : Int)) (.int .i64 (n : Int)) (.int .i64 (x : Int)) rfl rfl (key_nat hx) ?_; intro w2 hm2 ht2; have hT2 := Lib.hid (TurnS.turned (S := fun k => k = m) ht2.out rfl); have V2 := Lib.hid ((V1'.out.drew1).turnS hT2.out (Ne.symm n1.out)); have k2 := V2.out.cell q0.out.c0; rw [hsv'.out] at k2; have hB2 : B ≤ w2.heap.size := (Nat.le_trans hB1 (Nat.le_of_eq (mturn_size (w := w1.drew) ht2.out).symm)); have b2 := V2.out.lt; have S2 := Lib.hid (S1.out.turned (w := w1.drew) M1.out ht2.out); clear k0 k1 kx fz)
        | (at_builtin; refine wpList_append_ptr rfl _ _ rfl B nb (.slice ad n cap) L rfl (by rw [← hsv'.out]; exact S2.out.alloc _) _ _ x rfl (step_ptr _ _) (by rw [hLn'.out]; omega) (by rw [size_alloc]; omega) ?_; intro sl' w4 hs4 hg4 hat4; obtain ⟨a4, cap4, hsl4, _⟩ := hs4.out.slice; obtain ⟨n4, hn4⟩ : ∃ n4, (L ++ [x]).length = n4 := ⟨_, rfl⟩; rw [hn4] at hsl4; clear hn4; subst hsl4; have V4 := Lib.hid ((V2.out.turnS (TurnS.alloc (fun _ => False) w2 _) (fun h => h)).grown hg4.out (fun e => hbs (by rw [hsv'.out]; exact e.symm))); have k4 := V4.out.cell q0.out.c0; have f4 := V4.out.frozen o))
      go_ret
      exact hE.out w2 w4 _ _ _ hm2.out ht2.out hs4.out (by rw [hsv'.out]; exact hg4.out) (by rw [hsv'.out]; exact hat4.out)
    · have hm2' := Lib.hid hm2
      have e2 := some_map m w
      clear hm2
      go_enter Try.func31, Try.ntmps31
      go_upto_region 5 with (go_at_call 19; refine hq2.out.mono ?_; rintro e w2 ⟨rfl, rfl⟩)
      have hC1 : C.set (o + 1) (.map (some m)) = C := set_same h1
      have q0 := Lib.hid (show AddMid w B nb b t C sl m l L o x from ⟨hV'.out, h0, h1, hm2'.out, hm3, hm4, hS.out.sl, hm1, fun e => hb (.inr (by rw [e])), hi, hB⟩)
      have R1 := Lib.hid (R'.out w C m l hC1.symm q0.out (TurnS.refl _ _) (.inl (.inr rfl)))
      have hol1 := Lib.hid (show o < C.length by omega)
      clear hm3 hm4 hm2' hC1 c0 c1 e1 e2 fz0 fz1 hq2
      have V1 := q0.out.row
      have k0 := V1.cell q0.out.c0
      have k1 := V1.cell q0.out.c1
      have kx := q0.out.num
      rw [hsv'.out] at k0
      have fz := V1.frozen o
      have M1 := Lib.hid (show MapAt 3 w.drew m l from q0.out.map)
      have hml := Lib.hid (show l.length < maxLen by rw [q0.out.len, hLn'.out]; unfold maxLen; omega)
      have hE := Lib.hid (fun w2 w4 c ty sl' hm2 ht2 hs4 hg4 hat => R1.out _ sl' (mid_end (w2 := w2) (w4 := w4) (c := c) (ty := ty) q0.out hm'.out hone.out hbs hol1.out (by rw [hLn'.out]; exact hm2) ht2 hs4 hg4 hat))
      have S1 := Lib.hid q0.out.sl
      have hB1 := q0.out.big
      have r1 := q0.out.row.lt
      have n1 := Lib.hid q0.out.ne
      have V1' := Lib.hid V1
      clear V1
      go_still_tail 13, (by kernel_rfl)
      change wpList _ _ _ _ _ w.drew
      go_wp2_with (first
        | (at_mapUpdate; refine wpList_map_store rfl _ _ _ rfl law_int Try.underlying49 m l rfl M1.out hml.out (.int .i64 (x : Int)) (.int .i64 (n : Int)) (.int .i64 (x : Int)) rfl rfl (key_nat hx) ?_; intro w2 hm2 ht2; have hT2 := Lib.hid (TurnS.turned (S := fun k => k = m) ht2.out rfl); have V2 := Lib.hid ((V1'.out.drew).turnS hT2.out (Ne.symm n1.out)); have k2 := V2.out.cell q0.out.c0; rw [hsv'.out] at k2; have hB2 : B ≤ w2.heap.size := (Nat.le_trans hB1 (Nat.le_of_eq (mturn_size (w := w.drew) ht2.out).symm)); have b2 := V2.out.lt; have S2 := Lib.hid (S1.out.turned (w := w.drew) M1.out ht2.out); clear k0 k1 kx fz hi)
        | (at_builtin; refine wpList_append_ptr rfl _ _ rfl B nb (.slice ad n cap) L rfl (by rw [← hsv'.out]; exact S2.out.alloc _) _ _ x rfl (step_ptr _ _) (by rw [hLn'.out]; omega) (by rw [size_alloc]; omega) ?_; intro sl' w4 hs4 hg4 hat4; obtain ⟨a4, cap4, hsl4, _⟩ := hs4.out.slice; obtain ⟨n4, hn4⟩ : ∃ n4, (L ++ [x]).length = n4 := ⟨_, rfl⟩; rw [hn4] at hsl4; clear hn4; subst hsl4; have V4 := Lib.hid ((V2.out.turnS (TurnS.alloc (fun _ => False) w2 _) (fun h => h)).grown hg4.out (fun e => hbs (by rw [hsv'.out]; exact e.symm))); have k4 := V4.out.cell q0.out.c0; have f4 := V4.out.frozen o))
      go_ret
      exact hE.out w2 w4 _ _ _ hm2.out ht2.out hs4.out (by rw [hsv'.out]; exact hg4.out) (by rw [hsv'.out]; exact hat4.out)
end
end Go.Proofs.Ytgkmmdkagiohgaa
end

section
set_option linter.unusedVariables false
set_option linter.unusedSimpArgs false
namespace Go.Proofs.Ytgkmmdkagiohgaa
open Go.RowKit BigFrame
set_option maxRecDepth 100000

/-- from one graph to the next: nothing but its own blocks has turned, and new ones -/
structure GStep (w : World) (G : Gr) (w' : World) (G' : Gr) : Prop where
  turn : TurnS (fun k => ∃ r, G.own k = some r) w w'
  old : ∀ k r, G.own k = some r → G'.own k = some r
  new : ∀ k r, G'.own k = some r → G.own k = some r ∨ w.heap.size ≤ k
theorem GStep.refl (w : World) (G : Gr) : GStep w G w G := ⟨TurnS.refl _ _, fun _ _ h => h, fun _ _ h => .inl h⟩
theorem GStep.trans {w w1 w2 : World} {G G1 G2 : Gr} (h : GStep w G w1 G1) (k : GStep w1 G1 w2 G2) : GStep w G w2 G2 :=
  ⟨h.turn.then k.turn fun j hj ⟨r, hr⟩ => by
      rcases h.new j r hr with h1 | h1
      · exact ⟨r, h1⟩
      · omega, fun j r hr => k.old j r (h.old j r hr), fun j r hr => by
      rcases k.new j r hr with h1 | h1
      · exact h.new j r h1
      · exact .inr (Nat.le_trans h.turn.size h1)⟩
theorem GStep.of_below {w w' : World} (G : Gr) (h : Below w.heap.size w w') : GStep w G w' G := ⟨TurnS.of_below _ h, fun _ _ h => h, fun _ _ h => .inl h⟩
theorem GStep.free {w w' : World} {G G' : Gr} (h : GStep w G w' G') {k : Nat} (hk : k < w.heap.size) (hn : G.own k = none) : G'.own k = none := by
  cases hc : G'.own k with
  | none => rfl
  | some r =>
    rcases h.new k r hc with h1 | h1
    · rw [hn] at h1; cases h1
    · omega
theorem GStep.block {w w' : World} {G G' : Gr} (h : GStep w G w' G') {k : Nat} (hk : k < w.heap.size) (hn : G.own k = none) : w'.heap[k]? = w.heap[k]? := h.turn.block k hk (fun ⟨r, hr⟩ => by rw [hn] at hr; cases hr)
theorem GStep.below {w w' : World} {B a M : Nat} {G G' : Gr} (h : GStep w G w' G') (hG : GrMem w B a M G) : Below B w w' := h.turn.below hG.lo fun k ⟨r, hr⟩ => (hG.hi k r hr).1

variable {w w' : World} {B a M : Nat} {G : Gr}
def LinkPost (B a M : Nat) (G : Gr) (i q x : Nat) (w : World) (e : Ending) (w' : World) : Prop :=
  e = .returned (.bool true) ∧ ∃ G', GrMem w' B a M G' ∧ GStep w G w' G' ∧ G'.ids = G.ids ∧ G'.nb = G.nb ∧ G'.lk = fun p j => if p = q ∧ j = i then G.lk q i ++ [x] else G.lk p j
open Classical in
theorem link_c {i q x : Nat} (h : GrMem w B a M G) (hi : i ∈ G.ids) (hq : q < 2) (hx : x ∈ G.ids) (hix : i ≠ x) (hm : x ∉ G.lk q i) (hl : (G.lk q i).length ≤ 1000) :
    Calls Try.prog 31 #[.pointer (some ⟨G.nb i, 1 + 2 * q, none⟩), .pointer (some ⟨G.nb x, 0, none⟩)] w (LinkPost B a M G i q x w) := by
  have hpi := h.pos i hi
  have hpx := h.pos x hx
  have hs := h.set i hi q hq
  have hne : ∀ {j p k : Nat}, j ∈ G.ids → p ∈ G.ids → InS (G.s j q) (G.m j q) k → k ≠ G.nb p := by
    intro j p k hj hp hk e
    have h1 := h.rs j hj q hq k hk
    have h2 := h.rn p hp
    have h3 := h.pos j hj
    have h4 := h.pos p hp
    rw [e, h2] at h1
    have := Option.some.inj h1
    omega
  refine (add_c (C := rowN i (G.s i) (G.m i)) x (h.row i hi) (rowN_s hq _ _) (rowN_m hq _ _) hs h.lo (fun hh => hne hi hi hh rfl) (by omega) hl (h.num hx) ?_ (fun hh => hne hi hx hh rfl)).mono fun e w' hp => ?_
  · intro e
    have h1 := h.rn i hi
    have h2 := h.rn x hx
    rw [e, h1] at h2
    have := Option.some.inj h2
    omega
  · obtain ⟨s', m', hV, hS, hn⟩ := hp.post.2 hm
    refine ⟨hp.ret.trans (ret_bool (decide_eq_true hm)), _, h.put hi hq hp.turn hV hS hn, ⟨hp.turn.mono ?_, ?_, ?_⟩, rfl, rfl, rfl⟩
    · rintro k _ (rfl | hk)
      · exact ⟨_, h.rn i hi⟩
      · exact ⟨_, h.rs i hi q hq k hk⟩
    · intro k r hk
      show (if _ then _ else _) = _
      rw [if_neg (fun hh => by have := (h.hi k r hk).2; omega)]
      exact hk
    · intro k r hk
      have hk2 : (if w.heap.size ≤ k ∧ InS s' m' k then some (5 * i + 1 + q) else G.own k) = some r := hk
      by_cases e : w.heap.size ≤ k ∧ InS s' m' k
      · exact .inr e.1
      · rw [if_neg e] at hk2; exact .inl hk2

/-- two bound -/
def bindL (lk : Nat → Nat → List Nat) (i k : Nat) (p j : Nat) : List Nat := if p = 0 ∧ j = i then lk 0 i ++ [k] else if p = 1 ∧ j = k then lk 1 k ++ [i] else lk p j
def GPost (B a M : Nat) (G : Gr) (ids : List Nat) (nb : Nat → Nat) (lk : Nat → Nat → List Nat) (v : Value) (w : World) (e : Ending) (w' : World) : Prop :=
  e = .returned v ∧ ∃ G', GrMem w' B a M G' ∧ GStep w G w' G' ∧ G'.ids = ids ∧ (∀ x ∈ G.ids, G'.nb x = nb x) ∧ (∀ p j, p < 2 → G'.lk p j = lk p j)
set_option maxHeartbeats 1000000 in
theorem bind_c {i k : Nat} (h : GrMem w B a M G) (hi : i ∈ G.ids) (hk : k ∈ G.ids) (hik : i ≠ k) (hm : k ∉ G.lk 0 i) (hm2 : i ∉ G.lk 1 k) (hl : (G.lk 0 i).length ≤ 1000) (hl2 : (G.lk 1 k).length ≤ 1000) :
    Calls Try.prog 21 #[.pointer (some ⟨G.nb i, 0, none⟩), .pointer (some ⟨G.nb k, 0, none⟩)] w (GPost B a M G G.ids G.nb (bindL G.lk i k) (.tuple #[]) w) := by
  have h1 := Lib.hid (link_c (q := 0) h hi (by omega) hk hik hm hl)
  have hh := Lib.hid hm2
  have hl2' := Lib.hid hl2
  clear hm hm2 hl hl2 h
  go_enter Try.func21, Try.ntmps21
  go_wp2_with (go_at_call 31; refine h1.out.mono ?_; clear h1; rintro e w1 ⟨rfl, G1, hG1, hs1, hids1, hnb1, hlk1⟩; have h2 := Lib.hid (link_c (q := 1) (i := k) (x := i) hG1 (hids1 ▸ hk) (by omega) (hids1 ▸ hi) (Ne.symm hik) (by rw [hlk1]; simpa using hh.out) (by rw [hlk1]; simpa using hl2'.out)); rw [hnb1] at h2)
  go_at_call 31
  refine h2.out.mono ?_
  rintro e w2 ⟨rfl, G2, hG2, hs2, hids2, hnb2, hlk2⟩
  go_wp2_with fail
  go_end0
  refine ⟨rfl, G2, hG2, hs1.trans hs2, hids2.trans hids1, fun x _ => by rw [hnb2, hnb1], fun p j _ => ?_⟩
  rw [hlk2]
  unfold bindL
  by_cases e1 : p = 1 ∧ j = k
  · obtain ⟨rfl, rfl⟩ := e1
    simp [hlk1]
  · simp only [if_neg e1, hlk1]

end Go.Proofs.Ytgkmmdkagiohgaa
end

section
set_option linter.unusedVariables false
set_option linter.unusedSimpArgs false
namespace Go.Proofs.Ytgkmmdkagiohgaa
open Go.RowKit BigFrame
set_option maxRecDepth 100000

open Classical in
/-- nothing is there -/
noncomputable def Gr.new (a M : Nat) : Gr := { ids := [], nb := fun _ => 0, lk := fun _ _ => [], s := fun _ _ => .slice none 0 0, m := fun _ _ => .map none, own := fun k => if k = a then some 0 else if k = M then some 1 else none }
theorem Gr.new_own {a M k r : Nat} (h : (Gr.new a M).own k = some r) : k = a ∨ k = M := by
  unfold Gr.new at h
  by_cases e : k = a
  · exact .inl e
  · by_cases e2 : k = M
    · exact .inr e2
    · simp [e, e2] at h
theorem new_mem {w : World} : GrMem ((w.alloc (.map #[] 0)).alloc (.cells #[.map (some w.heap.size)] 46)) w.heap.size (w.heap.size + 1) w.heap.size (Gr.new (w.heap.size + 1) w.heap.size) := by
  have e1 : (w.alloc (.map #[] 0)).heap.size = w.heap.size + 1 := size_alloc _ _
  have hM := (MapAt.made 3 w).blk (old_alloc (w.alloc (.map #[] 0)) (.cells #[.map (some w.heap.size)] 46) w.heap.size (by omega))
  have hV := Vw.alloc (w.alloc (.map #[] 0)) [.map (some w.heap.size)] 46
  rw [e1] at hV
  refine ⟨hV, ⟨[], hM, rfl, (fun x hx => by cases hx), fun _ _ => rfl⟩, (fun i hi => by cases hi), (fun i hi => by cases hi), by simp [Gr.new], by simp [Gr.new], (fun i hi => by cases hi), (fun i hi => by cases hi), fun k r hk => ?_, by rw [size_alloc]; omega, (fun i hi => by cases hi), List.nodup_nil, by simp [Gr.new]⟩
  rw [size_alloc, e1]
  rcases Gr.new_own hk with rfl | rfl <;> omega
theorem new_c (w : World) : Calls Try.prog 8 #[] w fun e w' => e = .returned (pv (w.heap.size + 1)) ∧ GrMem w' w.heap.size (w.heap.size + 1) w.heap.size (Gr.new (w.heap.size + 1) w.heap.size) ∧ Below w.heap.size w w' := by
  have hmm := @run_makeMap Try.prog
  have hM := Lib.hid (@new_mem w)
  have hb := Lib.hid ((((Below.refl w.heap.size w).alloc (Nat.le_refl _) (.map #[] 0))).alloc (by rw [size_alloc]; omega) (.cells #[.map (some w.heap.size)] 46))
  go_enter Try.func8, Try.ntmps8
  go_wp2_with fail
  go_ret
  exact ⟨rfl, hM.out, hb.out⟩

variable {w w' : World} {B a M : Nat} {G : Gr}
open Classical in
/-- one more -/
noncomputable def Gr.add (G : Gr) (i n : Nat) : Gr := { ids := G.ids ++ [i], nb := fun x => if x = i then n else G.nb x, lk := fun p j => if j = i then [] else G.lk p j, s := fun j p => if j = i then .slice none 0 0 else G.s j p, m := fun j p => if j = i then .map none else G.m j p, own := fun k => if k = n then some (5 * i) else G.own k }
theorem GrMem.add {w0 : World} {i : Nat} {l : List (Lit × Value)} (h : GrMem w0 B a M G) (hi : i ∉ G.ids) (h1 : 1 ≤ i) (h2 : i ≤ 1000) (hf : G.ids.length < 500) (hin : ∀ j ∈ G.ids, ∀ q, q < 2 → ∀ x ∈ G.lk q j, x ∈ G.ids)
    (hw0 : w0 = w.alloc (.cells #[.int .i64 (i : Int), .slice none 0 0, .map none, .slice none 0 0, .map none] 54)) (hg : GrMem w B a M G)
    (ht : w0.mapTurned w' M) (hl0 : MapAt 3 w0 M l) (hl1 : l.length = G.ids.length) (hl2 : ∀ x ∈ G.ids, fndL l (.int .i64 (x : Int)) = some (pv (G.nb x))) (hl3 : ∀ k : Int, (∀ x ∈ G.ids, k ≠ (x : Int)) → fndL l (.int .i64 k) = none)
    (hm : MapAt 3 w' M (insL (.int .i64 (i : Int), pv w.heap.size) (strL l (.int .i64 (i : Int))))) : GrMem w' B a M (G.add i w.heap.size) ∧ GStep w G w' (G.add i w.heap.size) := by
  have hT : TurnS (fun k => k = M) w w' := (hw0 ▸ TurnS.alloc (fun k => k = M) w _).trans (TurnS.turned ht rfl)
  have hsz : w0.heap.size = w.heap.size + 1 := by rw [hw0]; exact size_alloc _ _
  have hsz' : w'.heap.size = w.heap.size + 1 := (mturn_size ht).trans hsz
  have hold : ∀ k r, G.own k = some r → (G.add i w.heap.size).own k = some r := fun k r hk => by
    show (if _ then _ else _) = _
    rw [if_neg (fun e => by have := (hg.hi k r hk).2; omega)]
    exact hk
  have hneM : ∀ k r, G.own k = some r → r ≠ 1 → k ≠ M := fun k r hk hr e => by
    have := hg.rM
    rw [← e, hk] at this
    exact hr (Option.some.inj this)
  have hnone : fndL l (.int .i64 (i : Int)) = none := hl3 _ fun x hx e => hi (by have : i = x := by omega
                                                                                 exact this ▸ hx)
  have hj : ∀ j, j ∈ G.ids → j ≠ i := fun j hj e => hi (e ▸ hj)
  constructor
  · refine ⟨hg.box.turnS hT (hneM a 0 hg.rb (by omega)), ⟨_, hm, ?_, ?_, ?_⟩, ?_, ?_, hold _ _ hg.rb, hold _ _ hg.rM, ?_, ?_, ?_, Nat.le_trans hg.lo hT.size, ?_, ?_, ?_⟩
    · rw [insL_length, strL_none hnone, hl1]
      show _ = (G.ids ++ [i]).length
      simp
    · intro x hx
      rw [fndL_put]
      show _ = some (pv (if x = i then _ else _))
      by_cases e : x = i
      · subst e; rw [if_pos rfl, if_pos rfl]
      · rw [if_neg (by omega), if_neg e]
        rcases List.mem_append.1 hx with hx | hx
        · exact hl2 x hx
        · simp at hx; exact absurd hx e
    · intro k hk
      rw [fndL_put, if_neg (hk i (List.mem_append.2 (.inr (by simp))))]
      exact hl3 k fun x hx => hk x (List.mem_append.2 (.inl hx))
    · intro j hj'
      by_cases e : j = i
      · subst e
        show Vw w' _ (if j = j then _ else _) (rowN j (fun p => if j = j then _ else _) (fun p => if j = j then _ else _))
        simp only [if_true]
        have hv : Vw w0 54 w.heap.size [.int .i64 (j : Int), .slice none 0 0, .map none, .slice none 0 0, .map none] := by rw [hw0]; exact Vw.alloc w [.int .i64 (j : Int), .slice none 0 0, .map none, .slice none 0 0, .map none] _
        exact hv.turnS (S := fun k => k = M) (TurnS.turned ht rfl) (fun e => by have := (hg.hi M 1 hg.rM).2; omega)
      · have hj2 : j ∈ G.ids := by
          rcases List.mem_append.1 hj' with h | h
          · exact h
          · simp at h; exact absurd h e
        show Vw w' _ (if j = i then _ else _) (rowN j (fun p => if j = i then _ else _) (fun p => if j = i then _ else _))
        simp only [if_neg e]
        have := hg.pos j hj2
        exact (hg.row j hj2).turnS hT (hneM _ _ (hg.rn j hj2) (by omega))
    · intro j hj' q hq
      by_cases e : j = i
      · subst e
        show SetIs w' B _ (if j = j then _ else _) (if j = j then _ else _) (if j = j then _ else _)
        simp only [if_true]
        exact SetIs.none _ _ _
      · have hj2 : j ∈ G.ids := by
          rcases List.mem_append.1 hj' with h | h
          · exact h
          · simp at h; exact absurd h e
        show SetIs w' B _ (if j = i then _ else _) (if j = i then _ else _) (if j = i then _ else _)
        simp only [if_neg e]
        refine ((hg.set j hj2 q hq).turn hT fun k hk => hneM _ _ (hg.rs j hj2 q hq k hk) (by have := hg.pos j hj2; omega)).congr fun x hx => ?_
        show (if x = i then _ else _) = _
        rw [if_neg (hj x (hin j hj2 q hq x hx))]
    · intro j hj'
      by_cases e : j = i
      · subst e
        show (if (if j = j then _ else _) = _ then _ else _) = _
        simp
      · have hj2 : j ∈ G.ids := by
          rcases List.mem_append.1 hj' with h | h
          · exact h
          · simp at h; exact absurd h e
        show (G.add i w.heap.size).own (if j = i then _ else _) = _
        rw [if_neg e]
        exact hold _ _ (hg.rn j hj2)
    · intro j hj' q hq k hk
      by_cases e : j = i
      · subst e
        have hk2 : InS (if j = j then .slice none 0 0 else G.s j q) (if j = j then .map none else G.m j q) k := hk
        simp only [if_true] at hk2
        rcases hk2 with h | h <;> cases h
      · have hj2 : j ∈ G.ids := by
          rcases List.mem_append.1 hj' with h | h
          · exact h
          · simp at h; exact absurd h e
        have hk2 : InS (if j = i then .slice none 0 0 else G.s j q) (if j = i then .map none else G.m j q) k := hk
        simp only [if_neg e] at hk2
        exact hold _ _ (hg.rs j hj2 q hq k hk2)
    · intro k r hk
      have hk2 : (if k = w.heap.size then some (5 * i) else G.own k) = some r := hk
      by_cases e : k = w.heap.size
      · have := hg.lo; omega
      · rw [if_neg e] at hk2
        have := hg.hi k r hk2; omega
    · intro j hj'
      rcases List.mem_append.1 hj' with h | h
      · exact hg.pos j h
      · simp at h; omega
    · show (G.ids ++ [i]).Nodup
      rw [List.nodup_append]
      exact ⟨hg.nd, by simp, by intro a ha b hb; simp at hb; subst hb; exact hj a ha⟩
    · show (G.ids ++ [i]).length ≤ 500
      simp; omega
  · refine ⟨hT.mono fun k _ hk => ⟨1, hk ▸ hg.rM⟩, hold, fun k r hk => ?_⟩
    have hk2 : (if k = w.heap.size then some (5 * i) else G.own k) = some r := hk
    by_cases e : k = w.heap.size
    · exact .inr (by omega)
    · rw [if_neg e] at hk2; exact .inl hk2
end Go.Proofs.Ytgkmmdkagiohgaa
end
