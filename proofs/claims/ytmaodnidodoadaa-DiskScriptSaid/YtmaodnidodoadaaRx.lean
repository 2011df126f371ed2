/-
  The document's own disk: Write.
-/
import Derived.Test.YtmaodnidodoadaaRq
namespace Go.Proofs.Ytmaodnidodoadaa
open Go.RowKit BigFrame

theorem rwrite_off (w : World) (B : Nat) (G : Nat) (A : RLies) (R : List Nat) (d : Dk) (at' : Int) (v : Value) (h : IsRf w B G A R d) (hon : d.on = false) :
    Calls Try.prog 28 #[.pointer (some ⟨G, 0, none⟩), .int .i64 at', v] w (GivesRf (.int .i64 4) d B G A R w) := by
  have c2 := h.cell 2
  simp only [rcells, hon, Bool.not_false, List.getElem?_toArray, List.getElem?_cons_zero, List.getElem?_cons_succ] at c2
  have h' := Lib.hid h
  clear h hon
  go_enter Try.func28, Try.ntmps28
  go_wp2_with fail
  go_ret
  exact ⟨rfl, A, h'.out, Step.refl _ _⟩
theorem rwrite_far (w : World) (B : Nat) (G : Nat) (A : RLies) (R : List Nat) (d : Dk) (at' : Int) (ba : Option Addr) (bn bcap : Nat) (h : IsRf w B G A R d) (hon : d.on = true) (ha : at' < 0 ∨ (d.n : Int) ≤ at') :
    Calls Try.prog 28 #[.pointer (some ⟨G, 0, none⟩), .int .i64 at', .slice ba bn bcap] w (GivesRf (.int .i64 2) d B G A R w) := by
  have c0 := h.cell 0
  have c2 := h.cell 2
  obtain ⟨n, hn⟩ : ∃ n, d.n = n := ⟨_, rfl⟩
  simp only [rcells, hon, hn, Bool.not_true, List.getElem?_toArray, List.getElem?_cons_zero, List.getElem?_cons_succ] at c0 c2
  rw [hn] at ha
  have h' := Lib.hid h
  clear h hon hn
  by_cases h0 : at' < 0
  · have t1 : decide (at' < 0) = true := decide_eq_true h0
    go_enter Try.func28, Try.ntmps28
    go_wp2_with fail
    go_ret
    exact ⟨rfl, A, h'.out, Step.refl _ _⟩
  · have t1 : decide (at' < 0) = false := decide_eq_false h0
    have t2 : decide ((n : Int) ≤ at') = true := decide_eq_true (by omega)
    go_enter Try.func28, Try.ntmps28
    go_wp2_with fail
    go_ret
    exact ⟨rfl, A, h'.out, Step.refl _ _⟩
theorem rwrite_short (w : World) (B : Nat) (G : Nat) (A : RLies) (R : List Nat) (d : Dk) (at' : Int) (ba : Option Addr) (bn bcap : Nat) (h : IsRf w B G A R d) (hon : d.on = true) (ha : 0 ≤ at' ∧ at' < (d.n : Int)) (hb : bn ≠ 128) :
    Calls Try.prog 28 #[.pointer (some ⟨G, 0, none⟩), .int .i64 at', .slice ba bn bcap] w (GivesRf (.int .i64 2) d B G A R w) := by
  have c0 := h.cell 0
  have c2 := h.cell 2
  obtain ⟨n, hn⟩ : ∃ n, d.n = n := ⟨_, rfl⟩
  simp only [rcells, hon, hn, Bool.not_true, List.getElem?_toArray, List.getElem?_cons_zero, List.getElem?_cons_succ] at c0 c2
  rw [hn] at ha
  have h' := Lib.hid h
  clear h hon hn
  have t1 : decide (at' < 0) = false := decide_eq_false (by omega)
  have t2 : decide ((n : Int) ≤ at') = false := decide_eq_false (by omega)
  have t3 : ((bn : Int) != 128) = true := by rw [bne_iff_ne]; omega
  go_enter Try.func28, Try.ntmps28
  go_wp2_with fail
  go_ret
  exact ⟨rfl, A, h'.out, Step.refl _ _⟩
theorem rwrite_fall (w : World) (B : Nat) (G : Nat) (A : RLies) (R : List Nat) (d : Dk) (at' : Int) (ba : Option Addr) (bcap : Nat) (h : IsRf w B G A R d) (hon : d.on = true) (ha : 0 ≤ at' ∧ at' < (d.n : Int)) (hfall : d.fall = true) :
    Calls Try.prog 28 #[.pointer (some ⟨G, 0, none⟩), .int .i64 at', .slice ba 128 bcap] w (GivesRf (.int .i64 4) d.fell B G A R w) := by
  have c0 := h.cell 0
  have c2 := h.cell 2
  obtain ⟨n, hn⟩ : ∃ n, d.n = n := ⟨_, rfl⟩
  simp only [rcells, hon, hn, Bool.not_true, List.getElem?_toArray, List.getElem?_cons_zero, List.getElem?_cons_succ] at c0 c2
  rw [hn] at ha
  have h' := Lib.hid h
  have hf' := Lib.hid hfall
  clear h hon hn hfall
  have t1 : decide (at' < 0) = false := decide_eq_false (by omega)
  have t2 : decide ((n : Int) ≤ at') = false := decide_eq_false (by omega)
  go_enter Try.func28, Try.ntmps28
  go_wp2_with (go_at_call 39; refine (rfalls_any _ B G A R d h'.out).mono ?_; rw [hf'.out]; rintro e w1 ⟨rfl, A1, hD1, hS1⟩; have D1 := Lib.hid hD1; have S1 := Lib.hid hS1; clear hD1 hS1)
  go_ret
  exact ⟨rfl, A1, D1.out, S1.out⟩

theorem rwaits_wrote {w1 w2 w3 w5 : World} {B G nw a g3 cap3 : Nat} {A : RLies} {R : List Nat} {d : Dk} {v2 v5 : Value} {l : List Nat} {o : Obj} (h : IsRf w1 B G A R d) (hn : d.waits.length = nw) (ho2 : w2.ownsRow w1.heap.size 70 2 v2 nw (qcells A.U d.waits)) (hb2 : w1.heap.size ≤ w2.heap.size)
    (O3 : OwnB w3 w2.heap.size (.slice (some ⟨g3, 0, none⟩) 128 cap3) l) (hl : l.length = 128) (hc3 : 128 ≤ cap3) (hge3 : w2.heap.size ≤ g3) (hlt3 : g3 < w3.heap.size) (hg5 : (w3.alloc o).grownBy w5 v2.ownBlock) (B5 : Below w1.heap.size w1 w5)
    (ho5 : w5.ownsRow w1.heap.size 70 2 v5 (nw + 1) (qcells A.U d.waits ++ [.int .i64 (a : Int), .slice (some ⟨g3, 0, none⟩) 128 cap3])) :
    WaitsAt w5 (A.foot G ++ R) G v5 (d.waits ++ [(a, l)]) (fun j => if j = nw then .slice (some ⟨g3, 0, none⟩) 128 cap3 else A.U j) := by
  have hM : ∀ k ∈ A.foot G ++ R, k < w1.heap.size := fun k hk => by
    rcases List.mem_append.1 hk with hk | hk
    · exact (h.over k hk).2.2
    · exact h.under k hk
  refine waits_more ho5 hn hM (fun j hj => ?_) ?_
  · obtain ⟨_, _, _, _, _, h0⟩ := h.waits
    rcases h0 with h0 | ⟨b, _, _, hx⟩
    · omega
    · exact (hx j (by omega)).2.2.step (.of_below B5 _)
  · have e : w5.heap[g3]? = w3.heap[g3]? := by
      rw [hg5.block g3 (by simp; omega) (fun e => by have := (World.ownsRow.lt ho2 g3 e.symm).2; omega)]
      exact ((Below.refl w3.heap.size w3).alloc (Nat.le_refl _) o).block g3 hlt3
    have hs : w3.heap.size ≤ w5.heap.size := Nat.le_trans (by simp) hg5.size
    exact ⟨g3, cap3, rfl, hc3, hl, O3.bat.block e, ⟨fun e => by have := hM g3 e; omega, by omega⟩, by have := hM G (List.mem_append_left _ (RLies.mem_G G A)); omega⟩

set_option maxRecDepth 100000 in
set_option maxHeartbeats 4000000 in
theorem rwrite_go (w : World) (B : Nat) (G : Nat) (A : RLies) (R : List Nat) (d0 : Dk) (a bb bo bcap : Nat) (l : List Nat) (h : IsRf w B G A R d0) (hB : B ≤ w.heap.size) (hon : d0.on = true) (hf : d0.fall = false) (ha : a < d0.n) (hl : l.length = 128) (hx : BAt w (some ⟨bb, bo, none⟩) l) (hoff : Off w (A.foot G) bb)
    (hm1 : d0.fell.waits.length < 1000) (hm2 : d0.fell.log.length < 1000) (han : a < d0.fell.n) :
    Calls Try.prog 28 #[.pointer (some ⟨G, 0, none⟩), .int .i64 (a : Int), .slice (some ⟨bb, bo, none⟩) 128 bcap] w (GivesRf (.int .i64 0) (d0.fell.wrote a l) B G A R w) := by
  have c0 := h.cell 0
  have c2 := h.cell 2
  obtain ⟨n, hn⟩ : ∃ n, d0.n = n := ⟨_, rfl⟩
  simp only [rcells, hon, hn, Bool.not_true, List.getElem?_toArray, List.getElem?_cons_zero, List.getElem?_cons_succ] at c0 c2
  rw [hn] at ha
  have h' := Lib.hid h
  have hf' := Lib.hid hf
  have hl' := Lib.hid hl
  have hx' := Lib.hid hx
  have hoff' := Lib.hid hoff
  obtain ⟨d, hd⟩ : ∃ d, d0.fell = d := ⟨_, rfl⟩
  rw [hd] at hm1 hm2 han ⊢
  have hd' := Lib.hid hd
  have hm1' := Lib.hid hm1
  have hm2' := Lib.hid hm2
  have han' := Lib.hid han
  clear h hon hf hd hl hx hoff han hn
  have t1 : decide ((a : Int) < 0) = false := decide_eq_false (by omega)
  have t2 : decide ((n : Int) ≤ (a : Int)) = false := decide_eq_false (by omega)
  go_enter Try.func28, Try.ntmps28
  have hB' := Lib.hid hB
  obtain ⟨iq, hiq, hq0, hq1, hq2⟩ := info_parts Try.infoQ
  have hiq' := Lib.hid hiq
  have hq0' := Lib.hid hq0
  have hq1' := Lib.hid hq1
  have hq2' := Lib.hid hq2
  obtain ⟨ii, hii, hi0, hi1, hi2⟩ := info_parts Try.infoI
  have hii' := Lib.hid hii
  have hi0' := Lib.hid hi0
  have hi1' := Lib.hid hi1
  have hi2' := Lib.hid hi2
  clear hiq hq0 hq1 hq2 hii hi0 hi1 hi2 hB
  go_wp2_with (first
    | (go_at_call 39; refine (rfalls_any _ B G A R d0 h'.out).mono ?_; rw [hf'.out, hd'.out]; rintro e w1 ⟨rfl, A1, hD1, hS1⟩; have D1 := Lib.hid hD1; have S1 := Lib.hid hS1; have x1 := Lib.hid (show BAt w1 (some ⟨bb, bo, none⟩) l by (rcases hx'.out with hz | ⟨b, o, e, hz⟩; (exact .inl hz); (refine .inr ⟨b, o, e, fun k hk => ?_⟩; cases e; rw [World.cell?_of_block (w := w) (a := ⟨bb, bo + k, none⟩) (hS1.same hoff'.out)]; exact hz k hk))); obtain ⟨aw, cw, hvw, hcw, _⟩ := id hD1.waits; obtain ⟨nw, hnw⟩ : ∃ nw, d.waits.length = nw := ⟨_, rfl⟩; have hnb : nw < 1000 := (by rw [← hnw]; exact hm1); rw [hnw] at hvw hcw; have W1 := Lib.hid (show WaitsAt w1 (A1.foot G ++ R) G (.slice aw nw cw) d.waits A1.U by rw [← hvw]; exact hD1.waits); have c1 := hD1.cell 1; simp only [rcells, hvw, List.getElem?_toArray, List.getElem?_cons_zero, List.getElem?_cons_succ] at c1; have hvw' := Lib.hid hvw; have hnw' := Lib.hid hnw; obtain ⟨nl, hnl⟩ : ∃ nl, d.log.length = nl := ⟨_, rfl⟩; have hlb : nl < 1000 := (by rw [← hnl]; exact hm2); have hnl' := Lib.hid hnl; clear hD1 hS1 c0 c2 hvw hnw hnl)
    | (at_builtin; refine wpList_append_q rfl (.const (.slice none 0 0)) (.tmp 36) rfl w1.heap.size rfl aw nw cw (A1.foot G ++ R) G d.waits A1.U rfl hnw'.out W1.out (by omega) (Nat.le_refl _) ?_; intro v2 w2 ho2 hb2; obtain ⟨a2, cap2, rfl, _, _⟩ := own_form ho2.out; have B2 := Lib.hid hb2; have x2 := Lib.hid (x1.out.on hb2 (Nat.le_refl _)); clear hb2 c1)
    | (at_builtin; refine wpList_append_bytes rfl (.const (.slice none 0 0)) (.tmp 39) rfl w2.heap.size (.slice none 0 0) [] rfl (OwnB.nil _ _) (some ⟨bb, bo, none⟩) 128 bcap l rfl hl'.out x2.out (by intro h; cases h) (by simp) (Nat.le_refl _) ?_; intro v3 w3 ho3 hg3 hb3; obtain ⟨g3, cap3, rfl, hc3, hge3, hlt3⟩ := OwnB.at (l := l) ho3.out hl'.out (by omega); have O3 := Lib.hid (show OwnB w3 w2.heap.size _ l from ho3.out); have B3 := Lib.hid (B2.out.trans (hb3.mono B2.out.size)); have P3 := Lib.hid (ownsRow_block (w' := w3) ho2.out (fun k hk => hb3.block k (World.ownsRow.lt ho2.out k hk).2)); have P4 := Lib.hid (World.ownsRow.alloc P3.out (.cells #[.int .i64 (a : Int), .slice (some ⟨g3, 0, none⟩) 128 cap3] 70)); have N4 := Lib.hid (show ∀ j u, [Value.int .i64 (a : Int), .slice (some ⟨g3, 0, none⟩) 128 cap3][j]? = some u → (w3.alloc (.cells #[.int .i64 (a : Int), .slice (some ⟨g3, 0, none⟩) 128 cap3] 70)).cell? ((⟨w3.heap.size, 0, none⟩ : Addr).add j) = some u from fun j u hu => World.news_of_block (cs := #[.int .i64 (a : Int), .slice (some ⟨g3, 0, none⟩) 128 cap3]) (heap_alloc_new w3 _) j u (by simpa using hu)); have B4 := Lib.hid (B3.out.trans (((Below.refl w3.heap.size w3).alloc (Nat.le_refl _) (.cells #[.int .i64 (a : Int), .slice (some ⟨g3, 0, none⟩) 128 cap3] 70)).mono B3.out.size)); have one2 := Lib.hid (show ∀ u ∈ [Value.int .i64 (a : Int), .slice (some ⟨g3, 0, none⟩) 128 cap3], u.oneCell' = true by (intro u hu; simp at hu; rcases hu with rfl | rfl <;> rfl)); clear hb3 hg3)
    | (at_builtin; refine wpList_append_own _ rfl (.tmp 37) (.tmp 42) 37 rfl w1.heap.size 70 iq _ 2 32 Try.underlying37 hiq'.out hq0'.out hq1'.out hq2'.out rfl (by decide) _ nw (qcells A1.U d.waits) rfl P4.out ⟨w3.heap.size, 0, none⟩ 1 1 [.int .i64 (a : Int), .slice (some ⟨g3, 0, none⟩) 128 cap3] rfl (by rfl) N4.out one2.out (by unfold maxLen; omega) (by omega) B4.out.size ?_; intro v5 w5 ho5 hg5 _; obtain ⟨a5, cap5, rfl, _, _⟩ := own_form ho5; have B5 := Lib.hid (B4.out.trans ((Below.refl _ _).grown hg5 B4.out.size (fun k hk => (World.ownsRow.lt P4.out k hk).1))); have W5 := rwaits_wrote D1.out hnw'.out ho2.out B2.out.size O3.out hl'.out hc3 hge3 hlt3 hg5 B5.out ho5; obtain ⟨hd6, hs6⟩ := D1.out.waited B5.out W5 han'.out hl'.out hm1'.out; have D6 := Lib.hid hd6; have S6 := Lib.hid hs6; have c1 := (D1.out.read B5.out).cell 1; have f1 := (D1.out.read B5.out).frozen 1; have c6 := hd6.cell 6; have f6 := hd6.frozen 6; simp only [rcells, hvw'.out, List.getElem?_toArray, List.getElem?_cons_zero, List.getElem?_cons_succ] at c1 c6; have P6 := Lib.hid (show (w5.setCell ⟨G, 1, none⟩ (.slice a5 (nw + 1) cap5)).ownsRow B 3 1 A1.vL nl (icells d.log) by rw [← hnl'.out]; exact hd6.log); have P7 := Lib.hid (World.ownsRow.alloc P6.out (.cells #[.int .i64 (a : Int)] 3)); have es := Lib.hid (show (w5.setCell ⟨G, 1, none⟩ (.slice a5 (nw + 1) cap5)).heap.size = w5.heap.size by simp [World.setCell]); have N7 := Lib.hid (show ∀ j u, [Value.int .i64 (a : Int)][j]? = some u → ((w5.setCell ⟨G, 1, none⟩ (.slice a5 (nw + 1) cap5)).alloc (.cells #[.int .i64 (a : Int)] 3)).cell? ((⟨w5.heap.size, 0, none⟩ : Addr).add j) = some u from fun j u hu => (by have := World.news_of_block (cs := #[.int .i64 (a : Int)]) (heap_alloc_new (w5.setCell ⟨G, 1, none⟩ (.slice a5 (nw + 1) cap5)) (.cells #[.int .i64 (a : Int)] 3)) j u (by simpa using hu); rw [es.out] at this; exact this)); have B6 := Lib.hid (show B ≤ (w5.setCell ⟨G, 1, none⟩ (.slice a5 (nw + 1) cap5)).heap.size from Nat.le_trans (Nat.le_trans hB'.out S1.out.size) S6.out.size); have B7 := Lib.hid (show B ≤ ((w5.setCell ⟨G, 1, none⟩ (.slice a5 (nw + 1) cap5)).alloc (.cells #[.int .i64 (a : Int)] 3)).heap.size by (have := B6.out; simp; simp at this; omega)); have s7 := Lib.hid (show ((w5.setCell ⟨G, 1, none⟩ (.slice a5 (nw + 1) cap5)).alloc (.cells #[.int .i64 (a : Int)] 3)).heap.size = w5.heap.size + 1 by simp [World.setCell]); have hgG := Lib.hid (show some G ≠ A1.vL.ownBlock from fun e => (D1.out.gne.2 G e.symm).1 rfl); clear hd6 hs6 W5 ho5 hg5)
    | (at_builtin; refine wpList_append_lies _ rfl (.tmp 50) (.tmp 52) 34 rfl B 3 ii _ 1 8 Try.underlying34 hii'.out hi0'.out hi1'.out hi2'.out (by rfl) (by decide) _ nl (icells d.log) rfl P7.out ⟨w5.heap.size, 0, none⟩ 1 1 [.int .i64 (a : Int)] rfl (by rfl) N7.out one_int (by decide) (by unfold maxLen; omega) (by omega) B7.out (w5.heap.size + 1) s7.out ?_; intro g8 cap8 w8 hown8 hgrow8 hat8 hlt8; have q6 := cell_grown (cell_alloc c6 (.cells #[.int .i64 (a : Int)] 3)) hgrow8 hgG.out; have q7 : w8.frozen? ⟨G, 6, none⟩ = false := frozen_grown ((World.frozen?_alloc_past _ _ _ (D6.out.over G (RLies.mem_G G _)).2.2).trans f6) (by show G < _; rw [s7.out]; have := (D6.out.over G (RLies.mem_G G _)).2.2; rw [es.out] at this; omega) hgrow8 hgG.out; obtain ⟨hD9, hS9⟩ := D6.out.growL B6.out ((Below.refl _ _).alloc (Nat.le_refl _) (.cells #[.int .i64 (a : Int)] 3)) hgrow8 (hat8.imp id (fun h => by rw [es.out]; omega)) hlt8 hown8 (by show nl + 1 = d.log.length + 1; rw [hnl'.out]) hm2'.out; have D9 := Lib.hid hD9; have S9 := Lib.hid hS9; clear hD9 hS9 hown8 hgrow8 hat8 hlt8 c1 f1 c6 f6))
  go_ret
  exact ⟨rfl, _, D9.out, (S1.out.trans S6.out).trans S9.out⟩
end Go.Proofs.Ytmaodnidodoadaa
