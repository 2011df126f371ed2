/-
  Read: what was written last. And: what is told of a disk.
-/
import Derived.Test.YtmaodnidodoadaaPw
import Derived.Test.YtmaodnidodoadaaCl
import Derived.Test.YtmaodnidodoadaaVr
import Derived.Deep.LoopGhost
namespace Go.Proofs.Ytmaodnidodoadaa
open Go.RowKit BigFrame

/-- bytes that are told, and a code -/
def GivesR (l : List Nat) (c : Int) (w : World) (e : Ending) (w' : World) : Prop := ∃ v, e = .returned (.tuple #[v, .int .i64 c]) ∧ OwnB w' w.heap.size v l ∧ Below w.heap.size w w'
theorem secs_bat {w : World} {g n : Nat} {f : Nat → List Nat} (h : Secs w g n f) (_hl : ∀ i, i < n → (f i).length = 128) {i : Nat} (hi : i < n) : BAt w (some ⟨g, i * 128, none⟩) (f i) :=
  .inr ⟨g, i * 128, rfl, fun k hk => (h i hi).1 k _ (bv_get hk)⟩

theorem read_off (w : World) (B : Nat) (G : Nat) (A : Lies) (d : Dk) (at' : Int) (h : IsDk w B G A d) (hon : d.on = false) :
    Calls Try.prog 22 #[.pointer (some ⟨G, 0, none⟩), .int .i64 at'] w (GivesR [] 4 w) := by
  have h' := Lib.hid h
  have hon' := Lib.hid (show reachN d at' = 4 by simp [reachN, hon])
  clear h hon
  go_enter Try.func22, Try.ntmps22
  go_wp2_with (go_at_call 37; refine (reach_any at' _ B G A d h'.out).mono ?_; rw [hon'.out]; rintro e w1 ⟨rfl, rfl⟩)
  go_ret2
  exact ⟨_, rfl, OwnB.nil _ _, Below.refl _ _⟩
theorem read_far (w : World) (B : Nat) (G : Nat) (A : Lies) (d : Dk) (at' : Int) (h : IsDk w B G A d) (hon : d.on = true) (ha : at' < 0 ∨ (d.n : Int) ≤ at') :
    Calls Try.prog 22 #[.pointer (some ⟨G, 0, none⟩), .int .i64 at'] w (GivesR [] 2 w) := by
  have h' := Lib.hid h
  have hon' := Lib.hid (show reachN d at' = 2 by rw [reachN, if_pos hon, if_neg (by omega)])
  clear h hon ha
  go_enter Try.func22, Try.ntmps22
  go_wp2_with (go_at_call 37; refine (reach_any at' _ B G A d h'.out).mono ?_; rw [hon'.out]; rintro e w1 ⟨rfl, rfl⟩)
  go_ret2
  exact ⟨_, rfl, OwnB.nil _ _, Below.refl _ _⟩
set_option maxHeartbeats 400000 in
theorem read_go (w : World) (B : Nat) (G : Nat) (A : Lies) (d : Dk) (a : Nat) (h : IsDk w B G A d) (hon : d.on = true) (ha : a < d.n) :
    Calls Try.prog 22 #[.pointer (some ⟨G, 0, none⟩), .int .i64 (a : Int)] w (GivesR (d.seen a) 0 w) := by
  have h' := Lib.hid h
  have hon' := Lib.hid (show reachN d a = 0 by rw [reachN, if_pos hon, if_pos (by omega)])
  have c2 := h.cell 2
  obtain ⟨n, hne⟩ : ∃ n, d.n = n := ⟨_, rfl⟩
  simp only [hcells, hne, List.getElem?_toArray, List.getElem?_cons_zero, List.getElem?_cons_succ] at c2
  have hx := Lib.hid (secs_bat h.seen (fun i hi => h.fine.seen hi) ha)
  have hl := Lib.hid (h.fine.seen ha)
  have hi0 : (0 : Int) ≤ (a : Int) := by omega
  have hi1 : (a : Int) < (n : Int) := by omega
  have hi2 : a < n := by omega
  clear h hon ha hne
  go_enter Try.func22, Try.ntmps22
  go_wp2_with (first
    | (go_at_call 37; refine (reach_any _ _ B G A d h'.out).mono ?_; rw [hon'.out]; rintro e w1 ⟨rfl, rfl⟩)
    | (go_at_call 35; refine (clone_b _ _ 128 (d.seen a) _ hl.out (by omega) hx.out (fun h => by cases h)).mono ?_; rintro e w1 ⟨v1, rfl, ho1, hb1⟩; obtain ⟨g1, cap1, rfl, _, _, _⟩ := ho1.at hl.out (by omega); have O1 := Lib.hid ho1; have B1 := Lib.hid hb1; clear ho1 hb1))
  go_ret2
  exact ⟨_, rfl, O1.out, B1.out⟩
/-- the sectors that were written, as they are told -/
def logD (d : Dk) (k : Nat) : Int := ((d.log.getD k 0 : Nat) : Int)
theorem log_ints {w : World} {B G : Nat} {A : Lies} {d : Dk} {sn : Nat → List Nat} (h : IsDkS w B G A d sn) : ∃ a cap, A.vl = .slice a d.log.length cap ∧ IntsAt w a d.log.length (logD d) ∧ (a = none → cap = 0) := by
  have hc := fun g hg => World.ownsRow.cells h.log (g := g) hg
  rcases h.log.2 with ⟨e, e2⟩ | ⟨g, cap, cur, e, _, _, hn, _⟩
  · exact ⟨none, 0, by rw [e, e2], .inl e2, fun _ => rfl⟩
  · refine ⟨_, cap, e, .inr ⟨g, 0, rfl, fun k hk => ?_⟩, fun h => by cases h⟩
    have := hc g (by rw [e]; rfl) k (.int .i64 (logD d k)) (by simp [icells, logD, List.getD, hk])
    rwa [addr_add] at this
theorem writes_any (w : World) (B : Nat) (G : Nat) (A : Lies) (d : Dk) (h : IsDk w B G A d) :
    Calls Try.prog 10 #[.pointer (some ⟨G, 0, none⟩)] w (GivesZ d.log.length (logD d) w) := by
  obtain ⟨a, cap, hvl, hx, hnil⟩ := log_ints h
  have c4 := h.cell 4
  have hm := h.fine.logs
  obtain ⟨nl, hnl⟩ : ∃ nl, d.log.length = nl := ⟨_, rfl⟩
  simp only [hcells, hvl, hnl, List.getElem?_toArray, List.getElem?_cons_zero, List.getElem?_cons_succ] at c4
  rw [hnl] at hx hm
  rw [hnl]
  have hx' := Lib.hid hx
  have hnil' := Lib.hid hnil
  clear h hx hnil hvl hnl
  go_enter Try.func10, Try.ntmps10
  go_wp2_with (go_at_call 36; refine (clone_z _ _ nl (logD d) _ (by omega) hx'.out hnil'.out).mono ?_; rintro e w1 ⟨v1, rfl, ho1, hb1⟩; have O1 := Lib.hid ho1; have B1 := Lib.hid hb1; clear ho1 hb1)
  go_ret
  exact ⟨_, rfl, O1.out, B1.out⟩
/-- the sectors of the writes that wait, as they are told -/
def waitD (d : Dk) (k : Nat) : Int := (((wtAt d.waits k).1 : Nat) : Int)
def WtRel (w : World) (d : Dk) (nw gi : Nat) (g : Nat) (i : Value) (wr : World) : Prop :=
  ∃ k : Nat, k + g = nw ∧ i = .int .i64 k ∧ Below w.heap.size w wr ∧ w.heap.size ≤ gi ∧ gi < wr.heap.size ∧ wr.rowIs gi 3 nw (fun j => if j < k then .int .i64 (waitD d j) else .int .i64 0)
def GivesW (n : Nat) (D : Nat → Int) (w : World) (e : Ending) (w' : World) : Prop := ∃ g, e = .returned (.slice (some ⟨g, 0, none⟩) n n) ∧ w.heap.size ≤ g ∧ w'.rowIs g 3 n (fun j => .int .i64 (D j)) ∧ Below w.heap.size w w'
set_option maxHeartbeats 1000000 in
theorem waiting_any (w : World) (B : Nat) (G : Nat) (A : Lies) (d : Dk) (h : IsDk w B G A d) :
    Calls Try.prog 9 #[.pointer (some ⟨G, 0, none⟩)] w (GivesW d.waits.length (waitD d) w) := by
  have h' := Lib.hid h
  have c3 := h.cell 3
  simp only [hcells, List.getElem?_toArray, List.getElem?_cons_zero, List.getElem?_cons_succ] at c3
  obtain ⟨a, cap, hvw⟩ := h.vw
  obtain ⟨nw, hnw⟩ : ∃ nw, d.waits.length = nw := ⟨_, rfl⟩
  have hmany : nw ≤ 1000 := by rw [← hnw]; exact h.fine.many
  rw [hnw] at hvw
  rw [hvw] at c3
  rw [hnw]
  have hvw' := Lib.hid hvw
  have hnw' := Lib.hid hnw
  have hGl := Lib.hid (h.over G (mem_foot_g G A)).2
  have hmk := run_make_row' (P := Try.prog) 34 3 (.int .i64 0) 8 Try.underlying34 Try.infoI rfl .i64 .i64 nw (by omega) (by omega)
  have hrow := Lib.hid (World.rowIs_made w (.int .i64 0) nw 3)
  have hb0 := Lib.hid ((Below.refl w.heap.size w).alloc (Nat.le_refl _) (.cells (madeCells #[.int .i64 0] nw) 3))
  have c3' : (w.alloc (.cells (madeCells #[.int .i64 0] nw) 3)).cell? ⟨G, 3, none⟩ = some (.slice a nw cap) := cell_alloc c3 _
  clear h hvw hnw
  go_enter Try.func9, Try.ntmps9
  go_wp2_with fail
  go_loopg [19] nw (fun g i wr => WtRel w d nw w.heap.size g i wr)
  case atStart => exact ⟨0, by omega, rfl, hb0.out, Nat.le_refl _, by simp, hrow.out.congr (fun i hi => by simp)⟩
  case round =>
    obtain ⟨k, hk, rfl, hB, _, hgl, hR⟩ := hrel
    by_cases hlt : k < nw
    · obtain ⟨g, rfl⟩ : ∃ g, gk = g + 1 := ⟨gk - 1, by omega⟩
      obtain ⟨hn2, hcap, gw, rfl, hr, hp1, hp2⟩ := IsDkS.round h'.out hvw'.out hlt
      obtain ⟨p, hpe⟩ : ∃ p, wtAt d.waits k = p := ⟨_, rfl⟩
      obtain ⟨at', bs⟩ := p
      rw [hpe] at hr hp1 hp2
      have hgw := Lib.hid (IsDkS.over h'.out gw (mem_foot_w (by rw [hvw'.out]; rfl))).2
      have hr' := Lib.hid (rangeAt_block (w' := wr) hr (hB.block gw hgw.out))
      have hw1 := Lib.hid (wcell_length (p := (at', bs)) hp2)
      have hw2 := Lib.hid (wcell_one (at', bs))
      have hw3 := Lib.hid (show (Try.prog.info? 67).map (·.size) = some (wcell (at', bs)).length by rw [hw1.out]; exact Try.sizeW)
      have hpe' := Lib.hid hpe
      have hB' := Lib.hid hB
      have hR' := Lib.hid hR
      have hgl' := Lib.hid hgl
      clear hr hp2 hpe hB hR hn2 c3 c3'
      go_wp2_with (first
        | (refine wpList_load_mid rfl 67 (.tmp 22) rfl gw (k * 129) rfl (wcell (at', bs)) _ hr'.out Try.underlying67 rfl hw3.out ?_)
        | (refine wpList_alloc_w rfl rfl ?_; intro g2 w2 hv2)
        | (refine wpList_store_w rfl (.tmp 5) (.tmp 23) rfl g2 (wcell (at', bs)) wzero rfl rfl hv2.out wzero_size hw1.out hw2.out ?_; intro w3 hv3; clear hv2; have k1 := hv3.out.cell0; have hR3 := Lib.hid (hR'.out.of_block (hv3.out.2.2.block _ hgl'.out)); have k2 := hR3.out.cell hlt; have k3 := hR3.out.frozen k; simp only [Nat.lt_irrefl, if_false] at k2; have hne := Lib.hid (show g2 ≠ w.heap.size by have := hv3.out.1; have := hgl'.out; omega)))
      go_roundg g
      case measure => omega
      case rel =>
        refine ⟨k + 1, by omega, by go_num, ?_, Nat.le_refl _, ?_, ?_⟩
        · exact (hB'.out.trans (hv3.out.2.2.mono hB'.out.size)).setCell (p := ⟨w.heap.size, k, none⟩) (Nat.le_refl _) _
        · simp [World.setCell]; have := hv3.out.2.2.size; have := hgl'.out; omega
        · refine (hR3.out.set k (.int .i64 (at' : Int))).congr (fun j hj => ?_)
          by_cases e : j = k
          · subst e
            rw [if_pos rfl, if_pos (by omega), waitD, hpe'.out]
          · rw [if_neg e]
            by_cases e2 : j < k
            · rw [if_pos e2, if_pos (by omega)]
            · rw [if_neg e2, if_neg (by omega)]
    · obtain rfl : k = nw := by omega
      have hR' := Lib.hid hR
      have hB' := Lib.hid hB
      clear hR hB
      go_wp2_with fail
      go_ret
      exact ⟨_, rfl, Nat.le_refl _, hR'.out.congr (fun j hj => by rw [if_pos hj]), hB'.out⟩

/-- block g holds n slices of bytes, each in a block of its own, one behind the other -/
structure Sheet (w : World) (B g n : Nat) (V : Nat → Value) (X : Nat → List Nat) (bk : Nat → Nat) : Prop where
  row : w.rowIs g 43 n V
  base : B ≤ g
  own : ∀ i, i < n → OwnB w B (V i) (X i) ∧ (V i).ownBlock = some (bk i) ∧ g < bk i
  rise : ∀ i j, i < j → j < n → bk i < bk j
def nilV : Value := .slice none 0 0
def ImRel (w : World) (d : Dk) (n : Nat) (g : Nat) (i : Value) (wr : World) : Prop :=
  ∃ (k : Nat) (V : Nat → Value) (bk : Nat → Nat), k + g = n ∧ i = .int .i64 k ∧ Below w.heap.size w wr ∧ w.heap.size < wr.heap.size ∧ wr.rowIs w.heap.size 43 n (fun j => if j < k then V j else nilV) ∧
    (∀ j, j < k → OwnB wr w.heap.size (V j) (d.firm j) ∧ (V j).ownBlock = some (bk j) ∧ w.heap.size < bk j) ∧ ∀ i j, i < j → j < k → bk i < bk j
/-- an image -/
def GivesI (n : Nat) (X : Nat → List Nat) (w : World) (e : Ending) (w' : World) : Prop := ∃ (g : Nat) (V : Nat → Value) (bk : Nat → Nat), e = .returned (.slice (some ⟨g, 0, none⟩) n n) ∧ Sheet w' w.heap.size g n V X bk ∧ Below w.heap.size w w'
theorem Try.infoP : (Try.prog.info? 43).map (fun i => (i.zero, i.size, i.bytes)) = some (some (.slice none 0 0), 1, 24) := by kernel_rfl
theorem OwnB.block {w w' : World} {base : Nat} {v : Value} {l : List Nat} (h : OwnB w base v l) (hb : ∀ k, v.ownBlock = some k → w'.heap[k]? = w.heap[k]?) : OwnB w' base v l := ownsRow_block h hb
theorem OwnB.lt {w : World} {base : Nat} {v : Value} {l : List Nat} (h : OwnB w base v l) : ∀ k, v.ownBlock = some k → base ≤ k ∧ k < w.heap.size := World.ownsRow.lt h

set_option maxHeartbeats 1000000 in
theorem image_any (w : World) (B : Nat) (G : Nat) (A : Lies) (d : Dk) (h : IsDk w B G A d) :
    Calls Try.prog 8 #[.pointer (some ⟨G, 0, none⟩)] w (GivesI d.n d.firm w) := by
  have h' := Lib.hid h
  have c1 := h.cell 1
  obtain ⟨n, hne⟩ : ∃ n, d.n = n := ⟨_, rfl⟩
  have hn := h.fine.n
  simp only [hcells, hne, List.getElem?_toArray, List.getElem?_cons_zero, List.getElem?_cons_succ] at c1
  rw [hne] at hn
  rw [hne]
  have hne' := Lib.hid hne
  have hGl := Lib.hid (h.over G (mem_foot_g G A)).2
  have hmk := run_make_row' (P := Try.prog) 32 43 (.slice none 0 0) 24 Try.underlying32 Try.infoP rfl .i64 .i64 n (by omega) (by omega)
  have hrow := Lib.hid (World.rowIs_made w (.slice none 0 0) n 43)
  have hb0 := Lib.hid ((Below.refl w.heap.size w).alloc (Nat.le_refl _) (.cells (madeCells #[.slice none 0 0] n) 43))
  have c1' : (w.alloc (.cells (madeCells #[.slice none 0 0] n) 43)).cell? ⟨G, 1, none⟩ = some (.slice (some ⟨A.f, 0, none⟩) n n) := cell_alloc c1 _
  clear h hne
  go_enter Try.func8, Try.ntmps8
  go_wp2_with fail
  go_loopg [18] n (fun g i wr => ImRel w d n g i wr)
  case atStart => exact ⟨0, fun _ => nilV, fun _ => 0, by omega, rfl, hb0.out, by simp, hrow.out.congr (fun i hi => by simp [nilV]), fun j h => by omega, fun i j _ h => by omega⟩
  case round =>
    obtain ⟨k, V, bk, hk, rfl, hB, hgl, hR, hV, hbk⟩ := hrel
    by_cases hlt : k < n
    · obtain ⟨g, rfl⟩ : ∃ g, gk = g + 1 := ⟨gk - 1, by omega⟩
      have hi0 : (0 : Int) ≤ (k : Int) := by omega
      have hi1 : (k : Int) < (n : Int) := by omega
      have hlt2 : k < d.n := by rw [hne'.out]; exact hlt
      have D2 := Lib.hid (show IsDkS wr B G A d d.seen from IsDkS.on h'.out hB (Nat.le_refl _))
      have k1 : wr.cell? ⟨G, 1, none⟩ = some (.slice (some ⟨A.f, 0, none⟩) n n) := by rw [hB.cell (p := ⟨G, 1, none⟩) hGl.out]; exact c1
      have hx := Lib.hid (secs_bat D2.out.firm D2.out.fine.firm hlt2)
      have hl := Lib.hid (D2.out.fine.firm k hlt2)
      have hB' := Lib.hid hB
      have hR' := Lib.hid hR
      have hV' := Lib.hid hV
      have hbk' := Lib.hid hbk
      have hgl' := Lib.hid hgl
      clear hB hR hV hbk c1 c1' hlt2
      go_wp2_with (go_at_call 35; refine (clone_b _ _ 128 (d.firm k) _ hl.out (by omega) hx.out (fun h => by cases h)).mono ?_; rintro e w3 ⟨v1, rfl, ho1, hb1⟩; obtain ⟨g1, cap1, rfl, _, hg1, hg2⟩ := ho1.at hl.out (by omega); have O1 := Lib.hid ho1; have B1 := Lib.hid hb1; have hR3 := Lib.hid (hR'.out.of_block (hb1.block _ hgl'.out)); have k2 := hR3.out.cell hlt; have k3 := hR3.out.frozen k; simp only [Nat.lt_irrefl, if_false, nilV] at k2; clear ho1 hb1)
      go_roundg g
      case measure => omega
      case rel =>
        have hset : ∀ (v : Value) (j : Nat), j ≠ w.heap.size → (w3.setCell ⟨w.heap.size, k, none⟩ v).heap[j]? = w3.heap[j]? := fun v j hj => Below.heap_setCell _ _ _ _ hj
        refine ⟨k + 1, fun j => if j = k then .slice (some ⟨g1, 0, none⟩) 128 cap1 else V j, fun j => if j = k then g1 else bk j, by omega, by go_num, ?_, ?_, ?_, ?_, ?_⟩
        · exact (hB'.out.trans (B1.out.mono hB'.out.size)).setCell (p := ⟨w.heap.size, k, none⟩) (Nat.le_refl _) _
        · simp [World.setCell]; have := B1.out.size; have := hgl'.out; omega
        · refine (hR3.out.set k (.slice (some ⟨g1, 0, none⟩) 128 cap1)).congr (fun j hj => ?_)
          by_cases e : j = k
          · subst e
            simp
          · rw [if_neg e]
            by_cases e2 : j < k
            · simp only [if_neg e, if_pos e2, if_pos (show j < k + 1 by omega)]
            · rw [if_neg e2, if_neg (by omega)]
        · intro j hj
          by_cases e : j = k
          · subst e
            simp only [if_true]
            refine ⟨(O1.out.lower hB'.out.size).block (fun m hm => hset _ m ?_), rfl, ?_⟩
            · have : g1 = m := Option.some.inj hm
              have := hgl'.out; omega
            · have := hgl'.out; omega
          · simp only [if_neg e]
            obtain ⟨o1, o2, o3⟩ := hV'.out j (by omega)
            refine ⟨(o1.on B1.out (Nat.le_refl _)).block (fun m hm => hset _ m ?_), o2, o3⟩
            rw [o2] at hm
            have : bk j = m := Option.some.inj hm
            omega
        · intro i j hij hj
          by_cases e : j = k
          · subst e
            show (if i = j then g1 else bk i) < (if j = j then g1 else bk j)
            rw [if_pos rfl, if_neg (by omega)]
            obtain ⟨o1, o2, o3⟩ := hV'.out i (by omega)
            have := (o1.lt _ o2).2
            omega
          · simp only [if_neg e, if_neg (show ¬ i = k by omega)]
            exact hbk'.out i j hij (by omega)
    · obtain rfl : k = n := by omega
      have hR' := Lib.hid hR
      have hB' := Lib.hid hB
      have hV' := Lib.hid hV
      have hbk' := Lib.hid hbk
      clear hR hB hV hbk
      go_wp2_with fail
      go_ret
      exact ⟨_, V, bk, rfl, ⟨hR'.out.congr (fun j hj => by rw [if_pos hj]), Nat.le_refl _, hV'.out, hbk'.out⟩, hB'.out⟩
end Go.Proofs.Ytmaodnidodoadaa
