/-
  Flush: what waits is firm.
-/
import Derived.Test.YtmaodnidodoadaaFa
import Derived.Deep.RegionHeld3
import Derived.Deep.LoopGhost
namespace Go.Proofs.Ytmaodnidodoadaa
open Go.RowKit BigFrame

def FlRel (w : World) (B : Nat) (G : Nat) (A : Lies) (d : Dk) (g : Nat) (i : Value) (wr : World) : Prop :=
  ∃ k : Nat, k + g = d.waits.length ∧ i = .int .i64 k ∧ IsDkS wr B G A (d.withFirm (appl d.firm (d.waits.take k))) d.seen ∧ Step w (A.foot G) wr (A.foot G)

theorem flush_end {w : World} {B G : Nat} {A : Lies} {d : Dk} (h : IsDkS w B G A (d.withFirm (appl d.firm (d.waits.take d.waits.length))) d.seen) (hf : d.flushes < 1000) (hd : d.Fine) :
    IsDk ((w.setCell ⟨G, 3, none⟩ (.slice none 0 0)).setCell ⟨G, 5, none⟩ (.int .i64 ((d.flushes : Int) + 1))) B G ⟨A.f, A.s, .slice none 0 0, A.vl, A.vk⟩ d.flushed := by
  refine h.head (A' := ⟨A.f, A.s, .slice none 0 0, A.vl, A.vk⟩) (d' := d.flushed) (sn' := d.flushed.seen) ?_ (fun k hk => ?_) (by simp [World.setCell]) rfl rfl (.inr ⟨rfl, rfl⟩) (.inl ⟨rfl, rfl⟩) (.inl ⟨rfl, rfl⟩) (hd.flushed hf) rfl (fun i _ => ?_) (fun i _ => rfl)
  · rw [heap_setCell_same _ _ _ _ _ _ (heap_setCell_same _ _ _ _ _ _ h.hdr)]
    simp [hcells, Dk.withFirm, Dk.flushed]
  · rw [Below.heap_setCell _ _ _ _ hk, Below.heap_setCell _ _ _ _ hk]
  · show d.seen i = appl d.firm (d.waits.take d.waits.length) i
    rw [List.take_length]; rfl

theorem flush_off (w : World) (B : Nat) (G : Nat) (A : Lies) (d : Dk) (h : IsDk w B G A d) (hon : d.on = false) :
    Calls Try.prog 29 #[.pointer (some ⟨G, 0, none⟩)] w (GivesS (.int .i64 4) d B G A w) := by
  have h' := Lib.hid h
  have hon' := Lib.hid hon
  clear h hon
  go_enter Try.func29, Try.ntmps29
  go_wp2_with (go_at_call 40; refine (powered_any _ B G A d h'.out).mono ?_; rw [hon'.out]; rintro e w1 ⟨rfl, rfl⟩)
  go_ret
  exact ⟨rfl, A, h'.out, Step.refl _ _⟩
theorem flush_fall (w : World) (B : Nat) (G : Nat) (A : Lies) (d : Dk) (h : IsDk w B G A d) (hon : d.on = true) (hfall : d.fall = true) :
    Calls Try.prog 29 #[.pointer (some ⟨G, 0, none⟩)] w (GivesS (.int .i64 4) d.fell B G A w) := by
  have h' := Lib.hid h
  have hon' := Lib.hid hon
  have hfall' := Lib.hid hfall
  clear h hon hfall
  go_enter Try.func29, Try.ntmps29
  go_wp2_with (first
    | (go_at_call 40; refine (powered_any _ B G A d h'.out).mono ?_; rw [hon'.out]; rintro e w1 ⟨rfl, rfl⟩)
    | (go_at_call 38; refine (falls_any _ B G A d h'.out).mono ?_; rw [hfall'.out]; rintro e w1 ⟨rfl, A1, hD1, hS1⟩; have D1 := Lib.hid hD1; have S1 := Lib.hid hS1; clear hD1 hS1))
  go_ret
  exact ⟨rfl, A1, D1.out, S1.out⟩

set_option maxHeartbeats 1000000 in
theorem flush_go (w0 : World) (B : Nat) (G : Nat) (A0 : Lies) (d0 : Dk) (h : IsDk w0 B G A0 d0) (hon : d0.on = true) (hfall : d0.fall = false) (hfm : d0.fell.flushes < 1000) :
    Calls Try.prog 29 #[.pointer (some ⟨G, 0, none⟩)] w0 (GivesS (.int .i64 0) d0.fell.flushed B G A0 w0) := by
  have h' := Lib.hid h
  have hon' := Lib.hid hon
  have hfall' := Lib.hid hfall
  have hfm' := Lib.hid hfm
  have hsz := Try.sizeS
  have hus := Try.underlying65
  clear h hon hfall hfm
  go_enter Try.func29, Try.ntmps29
  go_wp2_with (first
    | (go_at_call 40; refine (powered_any _ B G A0 d0 h'.out).mono ?_; rw [hon'.out]; rintro e w1 ⟨rfl, rfl⟩)
    | (go_at_call 38; refine (falls_any _ B G A0 d0 h'.out).mono ?_; rw [hfall'.out]; rintro e w ⟨rfl, A, hD1, hS1⟩; obtain ⟨d, hd⟩ : ∃ d, d0.fell = d := ⟨_, rfl⟩; rw [hd] at hD1; obtain ⟨a, cap, hvw⟩ := hD1.vw; obtain ⟨nw, hnw⟩ : ∃ nw, d.waits.length = nw := ⟨_, rfl⟩; have hmany : nw ≤ 1000 := (by rw [← hnw]; exact hD1.fine.many); have c3 := hD1.cell 3; rw [hnw] at hvw; simp only [hcells, hvw, List.getElem?_toArray, List.getElem?_cons_zero, List.getElem?_cons_succ] at c3; have hvw' := Lib.hid hvw; have hnw' := Lib.hid hnw; have D1 := Lib.hid hD1; have S1 := Lib.hid hS1; have hd' := Lib.hid hd; clear hD1 hS1 hvw hnw hd))
  go_loopg [18] nw (fun g i wr => FlRel w B G A d g i wr)
  case atStart => exact ⟨0, by rw [hnw'.out, Nat.zero_add], rfl, D1.out, Step.refl _ _⟩
  case round =>
    obtain ⟨k, hk, rfl, hD, hS⟩ := hrel
    rw [hnw'.out] at hk
    by_cases hlt : k < nw
    · obtain ⟨g, rfl⟩ : ∃ g, gk = g + 1 := ⟨gk - 1, by omega⟩
      obtain ⟨hn2, hcap, gw, rfl, hr, hp1, hp2⟩ := hD.round hvw'.out hlt
      have c1 := hD.cell 1
      obtain ⟨p, hpe⟩ : ∃ p, wtAt d.waits k = p := ⟨_, rfl⟩
      obtain ⟨n, hne⟩ : ∃ n, d.n = n := ⟨_, rfl⟩
      obtain ⟨at', bs⟩ := p
      simp only [Dk.withFirm, hpe, hne, hcells, List.getElem?_toArray, List.getElem?_cons_zero, List.getElem?_cons_succ] at hr hp1 hp2 c1
      have hD' := Lib.hid hD
      have hS' := Lib.hid hS
      have hr' := Lib.hid hr
      have hw1 := Lib.hid (wcell_length (p := (at', bs)) hp2)
      have hw2 := Lib.hid (wcell_one (at', bs))
      have hw3 := Lib.hid (show (Try.prog.info? 67).map (·.size) = some (wcell (at', bs)).length by rw [hw1.out]; exact Try.sizeW)
      have hpe' := Lib.hid hpe
      have hne' := Lib.hid hne
      have hbs' := Lib.hid hp2
      have hth := Lib.hid ((hD.firm at' (by show at' < d.n; omega)).2)
      have hfg := Lib.hid ((hD.over A.f (mem_foot_f G A)).2)
      have hgg := Lib.hid ((hD.over G (mem_foot_g G A)).2)
      have hgf := Lib.hid hD.gf.1
      obtain ⟨cs, hcs⟩ : ∃ cs, bv bs = cs := ⟨_, rfl⟩
      have hcs' := Lib.hid hcs
      have hcl : cs.length = 128 := by rw [← hcs, bv_length, hp2]
      have hc1 : ∀ v ∈ cs, v.oneCell' = true := by rw [← hcs]; exact bv_one bs
      have hci : (Try.prog.info? 65).map (·.size) = some cs.length := by rw [hcl]; exact hsz
      have hi0 : (0 : Int) ≤ (at' : Int) := by omega
      have hi1 : (at' : Int) < (n : Int) := by omega
      clear hD hS hr hpe hne hn2 hp2 hcs c3
      go_wp2_with (first
        | (refine wpList_load_mid rfl 67 (.tmp 20) rfl gw (k * 129) rfl (wcell (at', bs)) _ hr'.out Try.underlying67 rfl hw3.out ?_)
        | (refine wpList_alloc_w rfl rfl ?_; intro g2 w2 hv2)
        | (refine wpList_store_w rfl (.tmp 5) (.tmp 21) rfl g2 (wcell (at', bs)) wzero rfl rfl hv2.out wzero_size hw1.out hw2.out ?_; intro w3 hv3; clear hv2))
      have k1 := hv3.out.cell0
      have k2 := hv3.out.range
      have k3 : w3.cell? ⟨G, 1, none⟩ = some (.slice (some ⟨A.f, 0, none⟩) n n) := by rw [hv3.out.2.2.cell (p := ⟨G, 1, none⟩) hgg.out]; exact c1
      have k4 : w3.there A.f (at' * 128) 128 := there_block hth.out (hv3.out.2.2.block _ hfg.out)
      have hne2 : g2 ≠ A.f := by have := hv3.out.1; have := hfg.out; omega
      have hne3 : G ≠ A.f := hgf.out
      simp only [hcs'.out] at k2
      clear c1
      go_region_held3 (fun w' => w'.cell? ⟨g2, 0, none⟩ = some (.int .i64 (at' : Int)) ∧ w'.rangeAt g2 1 cs ∧ w'.cell? ⟨G, 1, none⟩ = some (.slice (some ⟨A.f, 0, none⟩) n n) ∧ w'.there A.f (at' * 128) 128) (first | exact ⟨cell_drew1 k1, range_drew1 k2, cell_drew1 k3, there_drew1 k4⟩ | exact ⟨cell_far (cell_drew1 k1) hne2, World.rangeAt_setCells_apart (range_drew1 k2) _ _ _ (.inl hne2), cell_far (cell_drew1 k3) hne3, World.there_setCells (there_drew1 k4) _ _ _⟩) (fail)
      go_wp2_with fail
      go_roundg g
      case measure => omega
      case rel =>
        refine ⟨k + 1, by rw [hnw'.out]; omega, by go_num, ?_, ?_⟩
        · have hD2 := (hD'.out.on hv3.out.2.2 (Nat.le_refl _)).drew1.storeF (a := at') (b := bs) (by show at' < d.n; rw [hne'.out]; exact hp1) hbs'.out (appl d.firm (d.waits.take (k + 1))) (fun i _ => by
            rw [take_succ_wt (by rw [hnw'.out]; exact hlt), appl_snoc, hpe'.out]; rfl)
          rw [hcs'.out] at hD2
          exact hD2
        · exact ((hS'.out.more hv3.out.2.2).more (below_drewN _ 1)).setCells A.f (at' * 128) cs (mem_foot_f G A)
    · obtain rfl : k = nw := by omega
      have c3 := hD.cell 3
      have c5 := hD.cell 5
      have f3 := hD.frozen 3
      have f5 := hD.frozen 5
      have hfl := hD.fine.flush
      obtain ⟨fl, hfl'⟩ : ∃ fl, d.flushes = fl := ⟨_, rfl⟩
      simp only [Dk.withFirm, hfl', hcells, List.getElem?_toArray, List.getElem?_cons_zero, List.getElem?_cons_succ] at c3 c5 hfl
      have hD' := Lib.hid hD
      have hS' := Lib.hid hS
      have hfl2 := Lib.hid hfl'
      clear hD hS hfl'
      go_wp2_with fail
      go_ret
      refine ⟨rfl, ⟨A.f, A.s, .slice none 0 0, A.vl, A.vk⟩, ?_, ?_⟩
      · rw [hd'.out, ← hfl2.out]
        exact flush_end (by rw [hnw'.out]; exact hD'.out) (by rw [← hd'.out]; exact hfm'.out) (IsDkS.fine D1.out)
      · refine S1.out.trans (Step.sub (F' := A.foot G) ((hS'.out.setCell _ _ _ (mem_foot_g G A)).setCell _ _ _ (mem_foot_g G A)) (fun k hk => ?_))
        simp only [Lies.foot, Value.ownBlock, Option.toList, List.nil_append, List.mem_cons, List.mem_append] at hk ⊢
        rcases hk with h | h | h | h
        · exact .inl h
        · exact .inr (.inl h)
        · exact .inr (.inr (.inl h))
        · exact .inr (.inr (.inr (.inr h)))
end Go.Proofs.Ytmaodnidodoadaa
