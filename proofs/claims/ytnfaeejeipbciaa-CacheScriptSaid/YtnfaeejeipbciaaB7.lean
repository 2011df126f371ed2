/-
  Crash: of what waits what is kept is firm, and nothing waits; the power is off.
  Does the power go now? And: armed, and on again.
  Flush: what waits is firm.
-/
import Derived.Test.YtnfaeejeipbciaaB5
import Derived.Test.YtnfaeejeipbciaaB6
import Derived.Deep.RegionHeld3
import Derived.Deep.LoopGhost

section
set_option linter.unusedVariables false
set_option linter.unusedSimpArgs false
namespace Go.Proofs.Ytnfaeejeipbciaa
open Go.RowKit BigFrame
set_option maxRecDepth 100000

/-- the flags lie beside the disk -/
def Beside (ka : Option Addr) (nk : Nat) (G : Nat) (A : Lies) : Prop := ∀ b o, 0 < nk → ka = some ⟨b, o, none⟩ → b ≠ A.f ∧ b ≠ A.s ∧ b ≠ G
theorem KAt.cells {w : World} {a : Option Addr} {l : List Bool} (h : KAt w a l) {b : Nat} {o : Nat} {cs : List Value} (ha : ∀ b' o', 0 < l.length → a = some ⟨b', o', none⟩ → b' ≠ b) : KAt (w.setCells b o cs) a l := by
  rcases h with h | ⟨b', off, rfl, hx⟩
  · exact .inl h
  · by_cases h0 : 0 < l.length
    · exact .inr ⟨b', off, rfl, fun k hk => cell_far (hx k hk) (ha b' off h0 rfl)⟩
    · exact .inl (by omega)
/-- those that were kept, seen as they are firm -/
def reseen (l : List (Nat × List Nat)) (F S : Nat → List Nat) : Nat → Nat → List Nat
  | 0 => S
  | k + 1 => updF (reseen l F S k) (wtAt l k).1 (F (wtAt l k).1)
theorem reseen_hit {l : List (Nat × List Nat)} {F S : Nat → List Nat} {i : Nat} : ∀ {k : Nat}, (∃ j, j < k ∧ (wtAt l j).1 = i) → reseen l F S k i = F i
  | 0, ⟨_, h, _⟩ => by omega
  | k + 1, ⟨j, h, e⟩ => by
    rw [reseen]
    by_cases hk : i = (wtAt l k).1
    · subst hk; rw [updF_same]
    · rw [updF_other hk]
      exact reseen_hit ⟨j, by
        have : j ≠ k := fun e2 => hk (by rw [← e, e2])
        omega, e⟩
theorem reseen_miss {l : List (Nat × List Nat)} {F S : Nat → List Nat} {i : Nat} : ∀ {k : Nat}, (∀ j, j < k → (wtAt l j).1 ≠ i) → reseen l F S k i = S i
  | 0, _ => rfl
  | k + 1, h => by
    rw [reseen, updF_other (Ne.symm (h k (by omega)))]
    exact reseen_miss (fun j hj => h j (by omega))
theorem reseen_all {l : List (Nat × List Nat)} {F S : Nat → List Nat} (h : ∀ i, (∀ p ∈ l, p.1 ≠ i) → S i = F i) (i : Nat) : reseen l F S l.length i = F i := by
  by_cases e : ∃ j, j < l.length ∧ (wtAt l j).1 = i
  · exact reseen_hit e
  · rw [reseen_miss (fun j hj e2 => e ⟨j, hj, e2⟩)]
    refine h i (fun p hp e2 => ?_)
    obtain ⟨j, hj, rfl⟩ := List.mem_iff_getElem.1 hp
    exact e ⟨j, hj, by rw [wtAt_get hj]; exact e2⟩
theorem reseen_len {l : List (Nat × List Nat)} {F S : Nat → List Nat} {n : Nat} (hF : ∀ i, i < n → (F i).length = 128) (hS : ∀ i, i < n → (S i).length = 128) : ∀ (k i : Nat), i < n → (reseen l F S k i).length = 128
  | 0, i, hi => hS i hi
  | k + 1, i, hi => by
    rw [reseen]
    by_cases hk : i = (wtAt l k).1
    · rw [← hk, updF_same]; exact hF i hi
    · rw [updF_other hk]; exact reseen_len hF hS k i hi
theorem crash_end {w : World} {B G : Nat} {A : Lies} {d : Dk} {K : List Bool} {sn : Nat → List Nat} (h : IsDkS w B G A (d.withFirm (appl d.firm (keptN K d.waits d.waits.length))) sn) (hsn : ∀ i, i < d.n → sn i = (d.crashed K).seen i) (hd : d.Fine) {w' : World}
    (hw : w' = (((((w.setCell ⟨G, 3, none⟩ (.slice none 0 0)).setCell ⟨G, 6, none⟩ (.bool false)).setCell ⟨G, 7, none⟩ (.int .i64 0)).setCell ⟨G, 8, none⟩ (.slice none 0 0)).setCell ⟨G, 0, none⟩ (.bool false))) :
    IsDk w' B G ⟨A.f, A.s, .slice none 0 0, A.vl, .slice none 0 0⟩ (d.crashed K) := by
  subst hw
  refine h.head (A' := ⟨A.f, A.s, .slice none 0 0, A.vl, .slice none 0 0⟩) (d' := d.crashed K) (sn' := (d.crashed K).seen) ?_ (fun k hk => ?_) (by simp [World.setCell]) rfl rfl (.inr ⟨rfl, rfl⟩) (.inl ⟨rfl, rfl⟩) (.inr ⟨rfl, rfl⟩) (hd.crashed K) rfl (fun i _ => rfl) (fun i hi => (hsn i hi).symm)
  · rw [heap_setCell_same _ _ _ _ _ _ (heap_setCell_same _ _ _ _ _ _ (heap_setCell_same _ _ _ _ _ _ (heap_setCell_same _ _ _ _ _ _ (heap_setCell_same _ _ _ _ _ _ h.hdr))))]
    simp [hcells, Dk.withFirm, Dk.crashed]
  · rw [Below.heap_setCell _ _ _ _ hk, Below.heap_setCell _ _ _ _ hk, Below.heap_setCell _ _ _ _ hk, Below.heap_setCell _ _ _ _ hk, Below.heap_setCell _ _ _ _ hk]
def CrRel (w : World) (B G : Nat) (A : Lies) (d : Dk) (ka : Option Addr) (K : List Bool) (g : Nat) (i : Value) (wr : World) : Prop :=
  ∃ k : Nat, k + g = d.waits.length ∧ i = .int .i64 k ∧ IsDkS wr B G A (d.withFirm (appl d.firm (keptN K d.waits k))) d.seen ∧ Step w (A.foot G) wr (A.foot G) ∧ KAt wr ka K
def CrRel2 (w : World) (B G : Nat) (A : Lies) (d : Dk) (F : Nat → List Nat) (g : Nat) (i : Value) (wr : World) : Prop :=
  ∃ k : Nat, k + g = d.waits.length ∧ i = .int .i64 k ∧ IsDkS wr B G A (d.withFirm F) (reseen d.waits F d.seen k) ∧ Step w (A.foot G) wr (A.foot G)

set_option maxHeartbeats 2000000 in
theorem crash_any (w : World) (B : Nat) (G : Nat) (A : Lies) (d : Dk) (h : IsDk w B G A d) (ka : Option Addr) (nk kcap : Nat) (K : List Bool) (hK : K.length = nk) (hkc : nk ≤ kcap) (hkb : nk ≤ 1000) (hka : KAt w ka K) (hbs : Beside ka nk G A) :
    Calls Try.prog 39 #[.pointer (some ⟨G, 0, none⟩), .slice ka nk kcap] w (GivesS (.tuple #[]) (d.crashed K) B G A w) := by
  have h' := Lib.hid h
  have c3 := h.cell 3
  simp only [hcells, List.getElem?_toArray, List.getElem?_cons_zero, List.getElem?_cons_succ] at c3
  obtain ⟨a, cap, hvw⟩ := h.vw
  obtain ⟨nw, hnw⟩ : ∃ nw, d.waits.length = nw := ⟨_, rfl⟩
  rw [hnw] at hvw
  rw [hvw] at c3
  have hvw' := Lib.hid hvw
  have hnw' := Lib.hid hnw
  have hsz := Try.sizeS
  have hmany : nw ≤ 1000 := by rw [← hnw]; exact h.fine.many
  have hus := Try.underlying90
  have hK' := Lib.hid hK
  have hka' := Lib.hid hka
  have hbs' := Lib.hid hbs
  clear h hvw hnw hK hka hbs
  go_enter Try.func39, Try.ntmps39
  go_wp2_with fail
  go_loopg [15] nw (fun g i wr => CrRel w B G A d ka K g i wr)
  case atStart => exact ⟨0, by rw [hnw'.out, Nat.zero_add], rfl, h'.out, Step.refl _ _, hka'.out⟩
  case round =>
    obtain ⟨k, hk, rfl, hD, hS, hKr⟩ := hrel
    rw [hnw'.out] at hk
    by_cases hlt : k < nw
    · obtain ⟨g, rfl⟩ : ∃ g, gk = g + 1 := ⟨gk - 1, by omega⟩
      obtain ⟨hn2, hcap, gw, rfl, hr, hp1, hp2⟩ := hD.round hvw'.out hlt
      have c1 := hD.cell 1
      obtain ⟨p, hpe⟩ : ∃ p, wtAt d.waits k = p := ⟨_, rfl⟩
      obtain ⟨n, hne⟩ : ∃ n, d.n = n := ⟨_, rfl⟩
      obtain ⟨at', bs⟩ := p
      simp only [Dk.withFirm, hpe, hne, hcells, List.getElem?_toArray, List.getElem?_cons_zero, List.getElem?_cons_succ] at hr hp1 hp2 c1
      have hD' := Lib.hid hD
      have hS' := Lib.hid hS
      have hr' := Lib.hid hr
      have hw1 := Lib.hid (wcell_length (p := (at', bs)) hp2)
      have hw2 := Lib.hid (wcell_one (at', bs))
      have hw3 := Lib.hid (show (Try.prog.info? 99).map (·.size) = some (wcell (at', bs)).length by rw [hw1.out]; exact Try.sizeW)
      have hpe' := Lib.hid hpe
      have hne' := Lib.hid hne
      have hbs2 := Lib.hid hp2
      have hKr' := Lib.hid hKr
      have hth := Lib.hid ((hD.firm at' (by show at' < d.n; omega)).2)
      have hfg := Lib.hid ((hD.over A.f (mem_foot_f G A)).2)
      have hgg := Lib.hid ((hD.over G (mem_foot_g G A)).2)
      have hgf := Lib.hid hD.gf.1
      obtain ⟨cs, hcs⟩ : ∃ cs, bv bs = cs := ⟨_, rfl⟩
      have hcs' := Lib.hid hcs
      have hcl : cs.length = 128 := by rw [← hcs, bv_length, hp2]
      have hc1 : ∀ v ∈ cs, v.oneCell' = true := by rw [← hcs]; exact bv_one bs
      have hci : (Try.prog.info? 90).map (·.size) = some cs.length := by rw [hcl]; exact hsz
      have hi0 : (0 : Int) ≤ (at' : Int) := by omega
      have hi1 : (at' : Int) < (n : Int) := by omega
      clear hD hS hr hpe hne hn2 hp2 hcs c3 hKr
      by_cases hnk : nk = 0
      · subst hnk
        go_wp2_with (first
          | (refine wpList_load_mid rfl 99 (.tmp 18) rfl gw (k * 129) rfl (wcell (at', bs)) _ hr'.out Try.underlying99 rfl hw3.out ?_)
          | (refine wpList_alloc_w rfl rfl ?_; intro g2 w2 hv2)
          | (refine wpList_store_w rfl (.tmp 5) (.tmp 19) rfl g2 (wcell (at', bs)) wzero rfl rfl hv2.out wzero_size hw1.out hw2.out ?_; intro w3 hv3; clear hv2))
        go_roundg g
        case measure => omega
        case rel =>
          refine ⟨k + 1, by rw [hnw'.out]; omega, by go_num, ?_, hS'.out.more hv3.out.2.2, hKr'.out.on hv3.out.2.2 (Nat.le_refl _)⟩
          have he : keptN K d.waits (k + 1) = keptN K d.waits k := by rw [keptN, show keepAt K k = false by simp [keepAt, hK'.out]]; simp
          rw [he]
          exact hD'.out.on hv3.out.2.2 (Nat.le_refl _)
      · have hq : k % nk < nk := Nat.mod_lt _ (by omega)
        have hq0 : (0 : Int) ≤ (k : Int) % (nk : Int) := by omega
        have hq1 : (k : Int) % (nk : Int) < (nk : Int) := by omega
        obtain ⟨kb, ko, rfl, hkc2⟩ : ∃ kb ko, ka = some ⟨kb, ko, none⟩ ∧ wr.cell? ⟨kb, ko + k % nk, none⟩ = some (.bool (K.getD (k % nk) false)) := by
          rcases hKr'.out with h | ⟨b, off, rfl, h⟩
          · have := hK'.out; omega
          · exact ⟨b, off, rfl, h (k % nk) (by rw [hK'.out]; exact hq)⟩
        have hkat := Lib.hid (show keepAt K k = K.getD (k % nk) false by rw [keepAt, hK'.out, show decide (0 < nk) = true by simp; omega]; rfl)
        obtain ⟨kq, hkq⟩ : ∃ kq, K.getD (k % nk) false = kq := ⟨_, rfl⟩
        have hkblt := Lib.hid (World.block_lt_of_cell? wr _ hkc2)
        rw [hkq] at hkc2
        have hkat2 := Lib.hid (hkat.out.trans hkq)
        clear hkq hkat
        have hnk0 : 0 < nk := by omega
        cases kq
        · go_wp2_with (first
            | (refine wpList_load_mid rfl 99 (.tmp 18) rfl gw (k * 129) rfl (wcell (at', bs)) _ hr'.out Try.underlying99 rfl hw3.out ?_)
            | (refine wpList_alloc_w rfl rfl ?_; intro g2 w2 hv2)
            | (refine wpList_store_w rfl (.tmp 5) (.tmp 19) rfl g2 (wcell (at', bs)) wzero rfl rfl hv2.out wzero_size hw1.out hw2.out ?_; intro w3 hv3; clear hv2; have kk : w3.cell? ⟨kb, ko + k % nk, none⟩ = some (.bool false) := (by rw [hv3.out.2.2.cell (p := ⟨kb, ko + k % nk, none⟩) hkblt.out]; exact hkc2)))
          go_roundg g
          case measure => omega
          case rel =>
            refine ⟨k + 1, by rw [hnw'.out]; omega, by go_num, ?_, hS'.out.more hv3.out.2.2, hKr'.out.on hv3.out.2.2 (Nat.le_refl _)⟩
            have he : keptN K d.waits (k + 1) = keptN K d.waits k := by rw [keptN, hkat2.out]; simp
            rw [he]
            exact hD'.out.on hv3.out.2.2 (Nat.le_refl _)
        · go_wp2_with (first
            | (refine wpList_load_mid rfl 99 (.tmp 18) rfl gw (k * 129) rfl (wcell (at', bs)) _ hr'.out Try.underlying99 rfl hw3.out ?_)
            | (refine wpList_alloc_w rfl rfl ?_; intro g2 w2 hv2)
            | (refine wpList_store_w rfl (.tmp 5) (.tmp 19) rfl g2 (wcell (at', bs)) wzero rfl rfl hv2.out wzero_size hw1.out hw2.out ?_; intro w3 hv3; clear hv2; have kk : w3.cell? ⟨kb, ko + k % nk, none⟩ = some (.bool true) := (by rw [hv3.out.2.2.cell (p := ⟨kb, ko + k % nk, none⟩) hkblt.out]; exact hkc2)))
          have k1 := hv3.out.cell0
          have k2 := hv3.out.range
          have k3 : w3.cell? ⟨G, 1, none⟩ = some (.slice (some ⟨A.f, 0, none⟩) n n) := by rw [hv3.out.2.2.cell (p := ⟨G, 1, none⟩) hgg.out]; exact c1
          have k4 : w3.there A.f (at' * 128) 128 := there_block hth.out (hv3.out.2.2.block _ hfg.out)
          have hne2 : g2 ≠ A.f := by have := hv3.out.1; have := hfg.out; omega
          have hne3 : G ≠ A.f := hgf.out
          simp only [hcs'.out] at k2
          clear c1 kk hkc2
          go_region_held3 (fun w' => w'.cell? ⟨g2, 0, none⟩ = some (.int .i64 (at' : Int)) ∧ w'.rangeAt g2 1 cs ∧ w'.cell? ⟨G, 1, none⟩ = some (.slice (some ⟨A.f, 0, none⟩) n n) ∧ w'.there A.f (at' * 128) 128) (first | exact ⟨cell_drew1 k1, range_drew1 k2, cell_drew1 k3, there_drew1 k4⟩ | exact ⟨cell_far (cell_drew1 k1) hne2, World.rangeAt_setCells_apart (range_drew1 k2) _ _ _ (.inl hne2), cell_far (cell_drew1 k3) hne3, World.there_setCells (there_drew1 k4) _ _ _⟩) (fail)
          go_wp2_with fail
          go_roundg g
          case measure => omega
          case rel =>
            refine ⟨k + 1, by rw [hnw'.out]; omega, by go_num, ?_, ?_, ?_⟩
            · have hD2 := (hD'.out.on hv3.out.2.2 (Nat.le_refl _)).drew1.storeF (a := at') (b := bs) (by show at' < d.n; rw [hne'.out]; exact hp1) hbs2.out (appl d.firm (keptN K d.waits (k + 1))) (fun i _ => by
                rw [keptN, hkat2.out, if_pos rfl, appl_snoc, hpe'.out]; rfl)
              rw [hcs'.out] at hD2
              exact hD2
            · exact ((hS'.out.more hv3.out.2.2).more (below_drewN _ 1)).setCells A.f (at' * 128) cs (mem_foot_f G A)
            · exact (hKr'.out.on hv3.out.2.2 (Nat.le_refl _)).drew1.cells (fun b o h1 h2 => (hbs'.out b o hnk0 h2).1)
    · obtain rfl : k = nw := by omega
      obtain ⟨F, hF⟩ : ∃ F, appl d.firm (keptN K d.waits k) = F := ⟨_, rfl⟩
      rw [hF] at hD
      have hFn := Lib.hid (show F = (d.crashed K).firm by rw [← hF, ← hnw'.out]; rfl)
      have c3r := hD.cell 3
      simp only [hcells, hvw'.out, List.getElem?_toArray, List.getElem?_cons_zero, List.getElem?_cons_succ] at c3r
      have hD' := Lib.hid hD
      have hS' := Lib.hid hS
      clear hD hS hF hKr c3
      go_wp2_with fail
      go_loopg [47] k (fun g i wr2 => CrRel2 w B G A d F g i wr2)
      case atStart => exact ⟨0, by rw [hnw'.out, Nat.zero_add], rfl, hD'.out, hS'.out⟩
      case round =>
        obtain ⟨j, hj, rfl, hD, hS⟩ := hrel
        rw [hnw'.out] at hj
        by_cases hlt : j < k
        · obtain ⟨g, rfl⟩ : ∃ g, gk = g + 1 := ⟨gk - 1, by omega⟩
          obtain ⟨hn2, hcap, gw, rfl, hr, hp1, hp2⟩ := hD.round hvw'.out hlt
          have c1 := hD.cell 1
          have c2 := hD.cell 2
          obtain ⟨p, hpe⟩ : ∃ p, wtAt d.waits j = p := ⟨_, rfl⟩
          obtain ⟨n, hne⟩ : ∃ n, d.n = n := ⟨_, rfl⟩
          obtain ⟨at', bs⟩ := p
          simp only [Dk.withFirm, hpe, hne, hcells, List.getElem?_toArray, List.getElem?_cons_zero, List.getElem?_cons_succ] at hr hp1 hp2 c1 c2
          have hD2 := Lib.hid hD
          have hS2 := Lib.hid hS
          have hr' := Lib.hid hr
          have hw1 := Lib.hid (wcell_length (p := (at', bs)) hp2)
          have hw2 := Lib.hid (wcell_one (at', bs))
          have hw3 := Lib.hid (show (Try.prog.info? 99).map (·.size) = some (wcell (at', bs)).length by rw [hw1.out]; exact Try.sizeW)
          have hpe' := Lib.hid hpe
          have hne' := Lib.hid hne
          have hlt2 : at' < d.n := by omega
          have hth := Lib.hid ((hD.seen at' hlt2).2)
          have hra := Lib.hid ((hD.firm at' hlt2).1)
          have hfg := Lib.hid ((hD.over A.f (mem_foot_f G A)).2)
          have hsg := Lib.hid ((hD.over A.s (mem_foot_s G A)).2)
          have hgg := Lib.hid ((hD.over G (mem_foot_g G A)).2)
          have hgf := Lib.hid hD.gf
          have hfl2 := Lib.hid (hD.fine.firm at' hlt2)
          obtain ⟨cs, hcs⟩ : ∃ cs, bv (F at') = cs := ⟨_, rfl⟩
          have hcs' := Lib.hid hcs
          have hcl : cs.length = 128 := by rw [← hcs, bv_length]; exact hfl2.out
          have hc1 : ∀ v ∈ cs, v.oneCell' = true := by rw [← hcs]; exact bv_one (F at')
          have hci : (Try.prog.info? 90).map (·.size) = some cs.length := by rw [hcl]; exact hsz
          have hi0 : (0 : Int) ≤ (at' : Int) := by omega
          have hi1 : (at' : Int) < (n : Int) := by omega
          clear hD hS hr hpe hne hn2 hp2 hcs c3r hlt2
          go_wp2_with (first
            | (refine wpList_load_mid rfl 99 (.tmp 49) rfl gw (j * 129) rfl (wcell (at', bs)) _ hr'.out Try.underlying99 rfl hw3.out ?_)
            | (refine wpList_alloc_w rfl rfl ?_; intro g2 w2 hv2)
            | (refine wpList_store_w rfl (.tmp 7) (.tmp 50) rfl g2 (wcell (at', bs)) wzero rfl rfl hv2.out wzero_size hw1.out hw2.out ?_; intro w3 hv3; clear hv2))
          have k1 := hv3.out.cell0
          have k2 : w3.cell? ⟨G, 1, none⟩ = some (.slice (some ⟨A.f, 0, none⟩) n n) := by rw [hv3.out.2.2.cell (p := ⟨G, 1, none⟩) hgg.out]; exact c1
          have k3 : w3.cell? ⟨G, 2, none⟩ = some (.slice (some ⟨A.s, 0, none⟩) n n) := by rw [hv3.out.2.2.cell (p := ⟨G, 2, none⟩) hgg.out]; exact c2
          have k4 : w3.there A.s (at' * 128) 128 := there_block hth.out (hv3.out.2.2.block _ hsg.out)
          have k5 : w3.rangeAt A.f (at' * 128) cs := by rw [← hcs'.out]; exact rangeAt_block hra.out (hv3.out.2.2.block _ hfg.out)
          have hne2 : g2 ≠ A.s := by have := hv3.out.1; have := hsg.out; omega
          have hne3 : G ≠ A.s := hgf.out.2.1
          have hne4 : A.f ≠ A.s := hgf.out.2.2
          clear c1 c2
          go_region_held3 (fun w' => w'.cell? ⟨g2, 0, none⟩ = some (.int .i64 (at' : Int)) ∧ w'.cell? ⟨G, 1, none⟩ = some (.slice (some ⟨A.f, 0, none⟩) n n) ∧ w'.cell? ⟨G, 2, none⟩ = some (.slice (some ⟨A.s, 0, none⟩) n n) ∧ w'.there A.s (at' * 128) 128 ∧ w'.rangeAt A.f (at' * 128) cs) (first | exact ⟨cell_drew1 k1, cell_drew1 k2, cell_drew1 k3, there_drew1 k4, range_drew1 k5⟩ | exact ⟨cell_far (cell_drew1 k1) hne2, cell_far (cell_drew1 k2) hne3, cell_far (cell_drew1 k3) hne3, World.there_setCells (there_drew1 k4) _ _ _, World.rangeAt_setCells_apart (range_drew1 k5) _ _ _ (.inl hne4)⟩) (fail)
          go_wp2_with fail
          go_roundg g
          case measure => omega
          case rel =>
            refine ⟨j + 1, by rw [hnw'.out]; omega, by go_num, ?_, ?_⟩
            · have hD3 := (hD2.out.on hv3.out.2.2 (Nat.le_refl _)).drew1.storeS (a := at') (b := F at') (reseen_len hD2.out.fine.firm (fun i hi => h'.out.fine.seen hi) j) (by show at' < d.n; rw [hne'.out]; exact hp1) hfl2.out (reseen d.waits F d.seen (j + 1)) (fun i _ => by
                rw [reseen, hpe'.out])
              rw [hcs'.out] at hD3
              exact hD3
            · exact ((hS2.out.more hv3.out.2.2).more (below_drewN _ 1)).setCells A.s (at' * 128) cs (mem_foot_s G A)
        · obtain rfl : j = k := by omega
          have c0 := hD.cell 0
          have c3 := hD.cell 3
          have c6 := hD.cell 6
          have c7 := hD.cell 7
          have c8 := hD.cell 8
          have f0 := hD.frozen 0
          have f3 := hD.frozen 3
          have f6 := hD.frozen 6
          have f7 := hD.frozen 7
          have f8 := hD.frozen 8
          simp only [hcells, List.getElem?_toArray, List.getElem?_cons_zero, List.getElem?_cons_succ] at c0 c3 c6 c7 c8
          have hD2 := Lib.hid hD
          have hS2 := Lib.hid hS
          clear hD hS c3r
          go_wp2_with fail
          go_end0
          refine ⟨rfl, ⟨A.f, A.s, .slice none 0 0, A.vl, .slice none 0 0⟩, crash_end (K := K) (sn := reseen d.waits F d.seen j) ?_ (fun i _ => ?_) h'.out.fine rfl, ?_⟩
          · have := hD2.out
            rw [hFn.out] at this
            rw [hFn.out]
            exact this
          · have := reseen_all (l := d.waits) (F := F) (S := d.seen) (fun i hi => by
              rw [hFn.out]
              show appl d.firm d.waits i = appl d.firm (keptN K d.waits d.waits.length) i
              rw [appl_away _ _ _ hi, appl_away _ _ _ (fun p hp => hi p (keptN_mem (Nat.le_refl _) p hp))]) i
            rw [hnw'.out] at this
            rw [this, hFn.out]
            rfl
          · refine Step.sub (F' := A.foot G) (((((hS2.out.setCell _ _ _ (mem_foot_g G A)).setCell _ _ _ (mem_foot_g G A)).setCell _ _ _ (mem_foot_g G A)).setCell _ _ _ (mem_foot_g G A)).setCell _ _ _ (mem_foot_g G A)) (fun k hk => ?_)
            simp only [Lies.foot, Value.ownBlock, Option.toList, List.nil_append, List.append_nil, List.mem_cons, List.mem_append] at hk ⊢
            rcases hk with h | h | h | h
            · exact .inl h
            · exact .inr (.inl h)
            · exact .inr (.inr (.inl h))
            · exact .inr (.inr (.inr (.inr (.inl h))))
end Go.Proofs.Ytnfaeejeipbciaa
end

section
set_option linter.unusedVariables false
set_option linter.unusedSimpArgs false
namespace Go.Proofs.Ytnfaeejeipbciaa
open Go.RowKit BigFrame

def Dk.fall (d : Dk) : Bool := d.set && decide (d.after = 0)
def Dk.fell (d : Dk) : Dk := if d.set then (if d.after = 0 then d.crashed d.keep else d.ticked) else d
theorem Dk.Fine.fell {d : Dk} (h : d.Fine) : d.fell.Fine := by
  unfold Dk.fell
  split
  · split
    · exact h.crashed _
    · exact h.ticked
  · exact h
theorem IsDkS.vk {w : World} {B G : Nat} {A : Lies} {d : Dk} {sn : Nat → List Nat} (h : IsDkS w B G A d sn) : ∃ a cap, A.vk = .slice a d.keep.length cap ∧ d.keep.length ≤ cap ∧ KAt w a d.keep ∧ Beside a d.keep.length G A := by
  have hc := fun g hg => World.ownsRow.cells h.keep (g := g) hg
  rcases h.keep.2 with ⟨e, e2⟩ | ⟨g, cap, cur, e, _, _, hn, _⟩
  · exact ⟨none, 0, by rw [e, e2], by omega, .inl e2, fun b o _ h => by cases h⟩
  · refine ⟨_, cap, e, hn, .inr ⟨g, 0, rfl, fun k hk => ?_⟩, fun b o _ h2 => ?_⟩
    · have := hc g (by rw [e]; rfl) k _ (kcells_get hk)
      rwa [addr_add] at this
    · simp only [Option.some.injEq, Addr.mk.injEq, and_true] at h2
      obtain ⟨rfl, -⟩ := h2
      have := h.wOff (k := g) (by simp [e, Value.ownBlock])
      exact ⟨this.2.1, this.2.2, this.1⟩
theorem tick_end {w : World} {B G : Nat} {A : Lies} {d : Dk} (h : IsDk w B G A d) (ha : 0 < d.after) : IsDk (w.setCell ⟨G, 7, none⟩ (.int .i64 ((d.after : Int) - 1))) B G A d.ticked := by
  refine IsDkS.head h (A' := A) (d' := d.ticked) (sn' := d.ticked.seen) ?_ (fun k hk => ?_) (by simp [World.setCell]) rfl rfl (.inl ⟨rfl, rfl⟩) (.inl ⟨rfl, rfl⟩) (.inl ⟨rfl, rfl⟩) h.fine.ticked rfl (fun i _ => rfl) (fun i _ => rfl)
  · rw [heap_setCell_same _ _ _ _ _ _ h.hdr]
    simp [hcells, Dk.ticked]
    omega
  · rw [Below.heap_setCell _ _ _ _ hk]

set_option maxHeartbeats 400000 in
theorem falls_any (w : World) (B : Nat) (G : Nat) (A : Lies) (d : Dk) (h : IsDk w B G A d) :
    Calls Try.prog 67 #[.pointer (some ⟨G, 0, none⟩)] w (GivesS (.bool d.fall) d.fell B G A w) := by
  have c6 := h.cell 6
  have c7 := h.cell 7
  have c8 := h.cell 8
  have f7 := h.frozen 7
  have haft := h.fine.aft
  obtain ⟨ka, kcap, hvk, hkc, hka, hbs⟩ := h.vk
  obtain ⟨st, hst⟩ : ∃ st, d.set = st := ⟨_, rfl⟩
  obtain ⟨af, haf⟩ : ∃ af, d.after = af := ⟨_, rfl⟩
  obtain ⟨nk, hnk⟩ : ∃ nk, d.keep.length = nk := ⟨_, rfl⟩
  have hkb := h.fine.keeps
  simp only [hcells, hst, haf, hvk, hnk, List.getElem?_toArray, List.getElem?_cons_zero, List.getElem?_cons_succ] at c6 c7 c8
  rw [haf] at haft
  rw [hnk] at hkb hkc
  have h' := Lib.hid h
  have hka' := Lib.hid hka
  have hbs' := Lib.hid (hnk ▸ hbs)
  have hnk' := Lib.hid hnk
  have haf' := Lib.hid haf
  cases st
  · have e1 : d.fall = false := by simp [Dk.fall, hst]
    have e2 : d.fell = d := by simp [Dk.fell, hst]
    rw [e1, e2]
    clear h hka hbs hnk haf hvk hst e1 e2
    go_enter Try.func67, Try.ntmps67
    go_wp2_with fail
    go_ret
    exact ⟨rfl, A, h'.out, Step.refl _ _⟩
  · by_cases h0 : af = 0
    · have e1 : d.fall = true := by simp [Dk.fall, hst, haf, h0]
      have e2 : d.fell = d.crashed d.keep := by simp [Dk.fell, hst, haf, h0]
      rw [e1, e2]
      clear h hka hbs hnk haf hvk hst e1 e2
      subst h0
      go_enter Try.func67, Try.ntmps67
      go_wp2_with (go_at_call 39; refine (crash_any _ B G A d h'.out ka nk kcap d.keep hnk'.out hkc hkb hka'.out hbs'.out).mono ?_; rintro e w1 ⟨rfl, A1, hD1, hS1⟩; have D1 := Lib.hid hD1; have S1 := Lib.hid hS1; clear hD1 hS1)
      go_ret
      exact ⟨rfl, A1, D1.out, S1.out⟩
    · have e1 : d.fall = false := by simp [Dk.fall, haf, h0]
      have e2 : d.fell = d.ticked := by simp [Dk.fell, hst, haf, h0]
      rw [e1, e2]
      have ht := Lib.hid (tick_end h (by omega))
      rw [haf] at ht
      have hp : 0 < af := by omega
      clear h hka hbs hnk haf hvk hst e1 e2
      go_enter Try.func67, Try.ntmps67
      go_wp2_with fail
      go_ret
      exact ⟨rfl, A, ht.out, (Step.refl _ _).setCell _ _ _ (mem_foot_g G A)⟩

theorem boot_end {w : World} {B G : Nat} {A : Lies} {d : Dk} (h : IsDk w B G A d) : IsDk (w.setCell ⟨G, 0, none⟩ (.bool true)) B G A d.booted := by
  refine IsDkS.head h (A' := A) (d' := d.booted) (sn' := d.booted.seen) ?_ (fun k hk => ?_) (by simp [World.setCell]) rfl rfl (.inl ⟨rfl, rfl⟩) (.inl ⟨rfl, rfl⟩) (.inl ⟨rfl, rfl⟩) h.fine.booted rfl (fun i _ => rfl) (fun i _ => rfl)
  · rw [heap_setCell_same _ _ _ _ _ _ h.hdr]
    simp [hcells, Dk.booted]
  · rw [Below.heap_setCell _ _ _ _ hk]
theorem boot_any (w : World) (B : Nat) (G : Nat) (A : Lies) (d : Dk) (h : IsDk w B G A d) :
    Calls Try.prog 37 #[.pointer (some ⟨G, 0, none⟩)] w (GivesS (.int .i64 (if d.on then 19 else 0)) d.booted B G A w) := by
  have c0 := h.cell 0
  have f0 := h.frozen 0
  obtain ⟨on, hon⟩ : ∃ on, d.on = on := ⟨_, rfl⟩
  simp only [hcells, hon, List.getElem?_toArray, List.getElem?_cons_zero] at c0
  rw [hon]
  have h' := Lib.hid h
  have ht := Lib.hid (boot_end h)
  cases on
  · clear h hon
    go_enter Try.func37, Try.ntmps37
    go_wp2_with fail
    go_ret
    exact ⟨rfl, A, ht.out, (Step.refl _ _).setCell _ _ _ (mem_foot_g G A)⟩
  · have e : d.booted = d := by unfold Dk.booted; cases d; simp only at hon; subst hon; rfl
    rw [e]
    clear h hon e
    go_enter Try.func37, Try.ntmps37
    go_wp2_with fail
    go_ret
    exact ⟨rfl, A, h'.out, Step.refl _ _⟩

theorem arm_end {w w1 : World} {B G : Nat} {A : Lies} {d : Dk} {af : Nat} {K : List Bool} {v : Value} (h : IsDk w B G A d) (hB : B ≤ w.heap.size) (hk : w1.ownsRow w.heap.size 4 1 v K.length (kcells K)) (hb : Below w.heap.size w w1) (ha : af < 9223372036854775808) (hK : K.length ≤ 1000) :
    IsDk (((w1.setCell ⟨G, 6, none⟩ (.bool true)).setCell ⟨G, 7, none⟩ (.int .i64 (af : Int))).setCell ⟨G, 8, none⟩ v) B G ⟨A.f, A.s, A.vw, A.vl, v⟩ (d.armed af K)
      ∧ Step w (A.foot G) (((w1.setCell ⟨G, 6, none⟩ (.bool true)).setCell ⟨G, 7, none⟩ (.int .i64 (af : Int))).setCell ⟨G, 8, none⟩ v) ((⟨A.f, A.s, A.vw, A.vl, v⟩ : Lies).foot G) := by
  have h1 : IsDkS w1 B G A d d.seen := IsDkS.on h hb (Nat.le_refl _)
  have hvlt := World.ownsRow.lt hk
  obtain ⟨w2, hw2⟩ : ∃ w2, (((w1.setCell ⟨G, 6, none⟩ (.bool true)).setCell ⟨G, 7, none⟩ (.int .i64 (af : Int))).setCell ⟨G, 8, none⟩ v) = w2 := ⟨_, rfl⟩
  have hoth : ∀ k, k ≠ G → w2.heap[k]? = w1.heap[k]? := fun k hk => by
    rw [← hw2, Below.heap_setCell _ _ _ _ hk, Below.heap_setCell _ _ _ _ hk, Below.heap_setCell _ _ _ _ hk]
  have hsz : w2.heap.size = w1.heap.size := by rw [← hw2]; simp [World.setCell]
  have hG : w2.heap[G]? = some (.cells (hcells ⟨A.f, A.s, A.vw, A.vl, v⟩ (d.armed af K)) 69 (0, 0)) := by
    rw [← hw2, heap_setCell_same _ _ _ _ _ _ (heap_setCell_same _ _ _ _ _ _ (heap_setCell_same _ _ _ _ _ _ h1.hdr))]
    simp [hcells, Dk.armed]
  have hGlt := (h1.over G (mem_foot_g G A)).2
  have hG0 := (IsDkS.over h G (mem_foot_g G A)).2
  have hst : Step w1 (A.foot G) w2 (A.foot G) := by
    rw [← hw2]
    exact (((Step.refl _ _).setCell _ _ _ (mem_foot_g G A)).setCell _ _ _ (mem_foot_g G A)).setCell _ _ _ (mem_foot_g G A)
  rw [hw2]
  obtain ⟨e1, e2, e3⟩ := h1.gf
  constructor
  · refine ⟨h1.fine.armed ha hK, hG, h1.firm.block (hoth _ (Ne.symm e1)), h1.seen.block (hoth _ (Ne.symm e2)), ownsRow_block h1.waits (fun k hk => hoth k (h1.wOff (by simp [hk])).1), ownsRow_block h1.log (fun k hk => hoth k (h1.wOff (by simp [hk])).1), ?_, ?_, ?_⟩
    · have h3 := ownsRow_block (w' := w2) hk (fun k hk2 => hoth k (by have := (hvlt k hk2).1; omega))
      obtain ⟨q1, q2⟩ := h3
      refine ⟨q1, ?_⟩
      rcases q2 with q2 | ⟨g, cap, cur, e, hg, rest⟩
      · exact .inl q2
      · exact .inr ⟨g, cap, cur, e, Nat.le_trans hB hg, rest⟩
    · have hap := h1.apart
      simp only [Lies.foot, List.nodup_cons, List.mem_cons, List.mem_append, not_or, List.nodup_append] at hap ⊢
      have hov := fun k hk => (IsDkS.over h k hk).2
      have hnew : ∀ k, k ∈ v.ownBlock.toList → w.heap.size ≤ k := fun k hk => (hvlt k (by simpa using hk)).1
      have gw := hov G (mem_foot_g G A)
      have fw := hov A.f (mem_foot_f G A)
      have sw := hov A.s (mem_foot_s G A)
      refine ⟨⟨hap.1.1, hap.1.2.1, hap.1.2.2.1, hap.1.2.2.2.1, fun h => by have := hnew _ h; omega⟩, ⟨hap.2.1.1, hap.2.1.2.1, hap.2.1.2.2.1, fun h => by have := hnew _ h; omega⟩, ⟨hap.2.2.1.1, hap.2.2.1.2.1, fun h => by have := hnew _ h; omega⟩, hap.2.2.2.1, ⟨hap.2.2.2.2.1.1, ?_, ?_⟩, ?_⟩
      · cases v.ownBlock <;> simp
      · intro a ha b hb e
        have := hnew b hb
        have := hov a (by simp [Lies.foot]; right; right; right; right; left; simpa using ha)
        omega
      · intro a ha b hb e
        rcases hb with hb | hb
        · exact hap.2.2.2.2.2 a ha b (.inl hb) e
        · have := hnew b hb
          have := hov a (by simp [Lies.foot]; right; right; right; left; simpa using ha)
          omega
    · intro k hk2
      simp only [Lies.foot, List.mem_cons, List.mem_append] at hk2
      rw [hsz]
      rcases hk2 with h | h | h | h | h | h
      · exact h1.over k (by simp [Lies.foot, h])
      · exact h1.over k (by simp [Lies.foot, h])
      · exact h1.over k (by simp [Lies.foot, h])
      · exact h1.over k (by simp only [Lies.foot, List.mem_cons, List.mem_append]; exact .inr (.inr (.inr (.inl h))))
      · exact h1.over k (by simp only [Lies.foot, List.mem_cons, List.mem_append]; exact .inr (.inr (.inr (.inr (.inl h)))))
      · have := hvlt k (by simpa using h); omega
  · have hs1 : Step w (A.foot G) w2 (A.foot G) := (Step.of_below hb _).trans hst
    refine ⟨hs1.os, hs1.tape, hs1.output, hs1.size, hs1.block, fun k hk2 => ?_⟩
    simp only [Lies.foot, List.mem_cons, List.mem_append] at hk2 ⊢
    rcases hk2 with h | h | h | h | h | h
    · exact .inl (.inl h)
    · exact .inl (.inr (.inl h))
    · exact .inl (.inr (.inr (.inl h)))
    · exact .inl (.inr (.inr (.inr (.inl h))))
    · exact .inl (.inr (.inr (.inr (.inr (.inl h)))))
    · exact .inr (hvlt k (by simpa using h)).1

end Go.Proofs.Ytnfaeejeipbciaa
end

section
set_option linter.unusedVariables false
set_option linter.unusedSimpArgs false
namespace Go.Proofs.Ytnfaeejeipbciaa
open Go.RowKit BigFrame

def FlRel (w : World) (B : Nat) (G : Nat) (A : Lies) (d : Dk) (g : Nat) (i : Value) (wr : World) : Prop :=
  ∃ k : Nat, k + g = d.waits.length ∧ i = .int .i64 k ∧ IsDkS wr B G A (d.withFirm (appl d.firm (d.waits.take k))) d.seen ∧ Step w (A.foot G) wr (A.foot G)

theorem flush_end {w : World} {B G : Nat} {A : Lies} {d : Dk} (h : IsDkS w B G A (d.withFirm (appl d.firm (d.waits.take d.waits.length))) d.seen) (hf : d.flushes < 1000) (hd : d.Fine) :
    IsDk ((w.setCell ⟨G, 3, none⟩ (.slice none 0 0)).setCell ⟨G, 5, none⟩ (.int .i64 ((d.flushes : Int) + 1))) B G ⟨A.f, A.s, .slice none 0 0, A.vl, A.vk⟩ d.flushed := by
  refine h.head (A' := ⟨A.f, A.s, .slice none 0 0, A.vl, A.vk⟩) (d' := d.flushed) (sn' := d.flushed.seen) ?_ (fun k hk => ?_) (by simp [World.setCell]) rfl rfl (.inr ⟨rfl, rfl⟩) (.inl ⟨rfl, rfl⟩) (.inl ⟨rfl, rfl⟩) (hd.flushed hf) rfl (fun i _ => ?_) (fun i _ => rfl)
  · rw [heap_setCell_same _ _ _ _ _ _ (heap_setCell_same _ _ _ _ _ _ h.hdr)]
    simp [hcells, Dk.withFirm, Dk.flushed]
  · rw [Below.heap_setCell _ _ _ _ hk, Below.heap_setCell _ _ _ _ hk]
  · show d.seen i = appl d.firm (d.waits.take d.waits.length) i
    rw [List.take_length]; rfl

end Go.Proofs.Ytnfaeejeipbciaa
end
