/-
  CacheAges: the walk.
-/
import Derived.Test.YtedbfehoeflmgaaCle
import Derived.Test.YtedbfehoeflmgaaCld
import Derived.Deep.LoopGhost
import Derived.Deep.RegionHeld3
set_option linter.unusedVariables false
set_option linter.unusedSimpArgs false
namespace Go.Proofs.Ytedbfehoeflmgaa
open Go.RowKit BigFrame
set_option maxRecDepth 100000

theorem IntsAt.blk {w w' : World} {a : Option Addr} {n : Nat} {R : Nat → Int} (h : IntsAt w a n R) (e : ∀ ad, a = some ad → w'.heap[ad.block]? = w.heap[ad.block]?) : IntsAt w' a n R := by
  rcases h with h | ⟨b, off, rfl, h⟩
  · exact .inl h
  · exact .inr ⟨b, off, rfl, fun k hk => by rw [World.cell?_of_block (w := w) (a := ⟨b, off + k, none⟩) (show w'.heap[b]? = w.heap[b]? from e _ rfl)]; exact h k hk⟩
section
variable {w w' : World} {F F' : List Nat} {v : Value} {W : List Nat}
theorem WantAt.nil (w : World) (F : List Nat) : WantAt w F (.slice none 0 0) [] := ⟨⟨none, 0, rfl, Nat.zero_le _, .inl rfl, fun _ => rfl, fun ad h => by cases h⟩⟩
theorem WantAt.step (h : WantAt w F v W) (hs : Step w F w' F') : WantAt w' F' v W := by
  obtain ⟨a, cap, e, hc, hi, hn, ho⟩ := h
  refine ⟨⟨a, cap, e, hc, hi.blk fun ad he => hs.block _ (ho ad he).2.1 (ho ad he).1, hn, fun ad he => ⟨fun h2 => ?_, Nat.lt_of_lt_of_le (ho ad he).2.1 hs.size, (ho ad he).2.2⟩⟩⟩
  rcases hs.foot _ h2 with e2 | e2
  · exact (ho ad he).1 e2
  · have := (ho ad he).2.1; omega
theorem own_some {B : Nat} {L : List Nat} (h : OwnZ w B v L) (hne : 1 ≤ L.length) : ∃ g cap, v = .slice (some ⟨g, 0, none⟩) L.length cap ∧ L.length ≤ cap ∧ B ≤ g ∧ g < w.heap.size ∧ IntsAt w (some ⟨g, 0, none⟩) L.length (gz L) := by
  obtain ⟨a, cap, e, _, hi⟩ := OwnZ.ints h
  rcases h.2 with ⟨_, h0⟩ | ⟨g, cap', cur, e2, hb, hg, hn, _⟩
  · omega
  · rw [e] at e2
    cases e2
    exact ⟨g, cap, e, hn, hb, (Array.getElem?_eq_some_iff.1 hg).1, hi⟩
theorem want_own {g cap : Nat} {L : List Nat} (hi : IntsAt w (some ⟨g, 0, none⟩) L.length (gz L)) (hc : L.length ≤ cap) (hg : g ∉ F) (hl : g < w.heap.size) : WantAt w F (.slice (some ⟨g, 0, none⟩) L.length cap) L :=
  ⟨⟨_, cap, rfl, hc, hi, fun h => (by cases h), fun ad h => (by cases h; exact ⟨hg, hl, rfl⟩)⟩⟩
theorem gz_drop (L : List Nat) (q k : Nat) : gz (L.drop q) k = gz L (q + k) := by
  unfold gz
  rw [List.getD_eq_getElem?_getD, List.getD_eq_getElem?_getD, List.getElem?_drop]
theorem want_tail {g cap : Nat} {L : List Nat} (hi : IntsAt w (some ⟨g, 0, none⟩) L.length (gz L)) (hc : L.length ≤ cap) (hg : g ∉ F) (hl : g < w.heap.size) (h1 : 1 ≤ L.length) : WantAt w F (.slice (some ⟨g, 1, none⟩) (L.length - 1) (cap - 1)) (L.drop 1) := by
  have h2 := hi.from (q := 1) h1
  refine ⟨⟨some ⟨g, 0 + 1, none⟩, cap - 1, by rw [List.length_drop], by rw [List.length_drop]; omega, ?_, fun h => (by cases h), fun ad h => (by cases h; exact ⟨hg, hl, rfl⟩)⟩⟩
  rw [List.length_drop]
  rcases h2 with h | ⟨b, o, e, h⟩
  · exact .inl h
  · exact .inr ⟨b, o, e, fun k hk => by rw [gz_drop]; exact h k hk⟩
theorem WantAt.on (h : WantAt w F v W) (hb : Below w.heap.size w w') : WantAt w' F v W := h.step (.of_below hb F)
end
/-- a round of it -/
def AgRel (w0 : World) (A : Lies) (d : Dk) (C G m k : Nat) (v : Value) (wr : World) : Prop := ∃ c H, Cv w0 wr A d c C G m k H ∧ AllF H ∧ H.length ≤ m ∧ WantAt wr (foots A c) v (H.map Sx.pos)
set_option maxHeartbeats 4000000 in
theorem ages_any (n cap : Nat) (a : Option Addr) (R : Nat → Int) (most drop : Int) (w : World) (x1 : IntsAt w a n R) :
    Calls Try.prog 6 #[.slice a n cap, .int .i64 most, .int .i64 drop] w (Woke w) := by
  have x1' := Lib.hid x1
  clear x1
  by_cases hn : n ≤ 40
  · obtain ⟨d0, hd0⟩ : ∃ d0, (Dk.fresh 10 fun _ => zs 128) = d0 := ⟨_, rfl⟩
    have h0 := Lib.hid (show d0.on = true ∧ d0.n = 10 ∧ d0.log = [] by rw [← hd0]; exact ⟨rfl, rfl, rfl⟩)
    have e0 := Lib.hid hd0
    clear hd0
    go_enter Try.func6, Try.ntmps6
    go_wp2_with fail
    refine (low_c most _ 9 _ rfl (by omega) (by omega)).mono ?_
    rintro e w1 ⟨m0, hm0, rfl, rfl⟩
    go_wp2_with fail
    refine (low_c drop _ 12 _ rfl (by omega) (by omega)).mono ?_
    rintro e w1 ⟨dr, hdr, rfl, rfl⟩
    obtain ⟨m, hm⟩ : ∃ m : Nat, m = 1 + m0 := ⟨_, rfl⟩
    have hm1 : 1 ≤ m := by omega
    have hm4 : m ≤ 9 := by omega
    go_upto_region 4 with fail
    rw [show (1 + (m0 : Int)) = (m : Int) by omega]
    clear hm hm0
    go_wp2_with (go_at_call 8; refine (new_c _ 10 _ rfl (by omega) (by omega)).mono ?_; rw [e0.out]; rintro e w1 ⟨G, A, rfl, hD1, hb1⟩; have D1 := Lib.hid hD1; have B1 := Lib.hid hb1; clear hD1 hb1)
    go_wp2_with (go_at_call 10; refine (newc_v (m := m) (Below.refl w.heap.size w) D1.out B1.out rfl hm1).mono ?_; rintro e w2 ⟨C, c2, rfl, hC2, _⟩; have C2 := Lib.hid hC2; clear hC2)
    go_loopg [9, 10] n (fun gk v9 v10 wr => ∃ k : Nat, k + gk = n ∧ v10 = .int .i64 (k : Int) ∧ AgRel w A d0 C G m k v9 wr)
    case atStart => exact ⟨0, by omega, rfl, c2, [], C2.out, fun x hx => (by cases hx), by simp, WantAt.nil _ _⟩
    case round =>
      obtain ⟨k, hkg, rfl, c5, H5, hC5, hA5, hl5, hW5⟩ := hrel
      have C5 := Lib.hid hC5
      have A5 := Lib.hid hA5
      have W5 := Lib.hid hW5
      obtain ⟨aw, cw, rfl, hcw, hiw, hnw, how⟩ := hW5
      obtain ⟨W, hW⟩ : ∃ W, H5.map Sx.pos = W := ⟨_, rfl⟩
      have hWl : W.length ≤ m := by rw [← hW, List.length_map]; exact hl5
      rw [hW] at W5 hcw hiw ⊢
      have hW' := Lib.hid hW
      obtain ⟨q, hq⟩ : ∃ q, W.length = q := ⟨_, rfl⟩
      have hq' := Lib.hid hq
      rw [hq] at W5 hcw hiw hWl ⊢
      have hnw' := Lib.hid hnw
      have how' := Lib.hid how
      have hiw' := Lib.hid hiw
      clear hC5 hA5 hl5 hW hq hnw how hiw
      by_cases hlt : k < n
      · obtain ⟨gn, rfl⟩ : ∃ gn, gk = gn + 1 := ⟨gk - 1, by omega⟩
        obtain ⟨ga, off, rfl, hcell⟩ : ∃ ga off, a = some ⟨ga, off, none⟩ ∧ wr.cell? ⟨ga, off + k, none⟩ = some (.int .i64 (R k)) := by
          rcases x1'.out.on' C5.out.below (Nat.le_refl _) with h | ⟨b, o, rfl, h⟩
          · omega
          · exact ⟨b, o, rfl, h k hlt⟩
        have hk1 : (k : Int) < (n : Int) := by omega
        have hk0 : (0 : Int) ≤ (k : Int) := by omega
        go_wp2_with fail
        refine (low_c (R k) _ 10 _ rfl (by omega) (by omega)).mono ?_
        rintro e w1 ⟨s, hs, rfl, rfl⟩
        clear hcell
        go_wp2_with (go_at_call 26; refine (getv_free C5.out (by omega) (by omega) A5.out (by rw [h0.out.2.1]; exact hs) h0.out.1).mono ?_; rintro e w6 ⟨v6, c6, H6, rfl, hC6, hA6, hm6, hS6⟩; rw [hW'.out] at hm6; have C6 := Lib.hid hC6; have A6 := Lib.hid hA6; have M6 := Lib.hid hm6; have W6 := Lib.hid (W5.out.step hS6); clear hC6 hA6 hm6 hS6)
        have hi6 := Lib.hid (show IntsAt w6 aw q (gz W) by
          obtain ⟨a', cap', e, _, hi, _, _⟩ := W6.out
          cases e
          rw [hq'.out] at hi
          exact hi)
        go_loopg [14, 15] q (fun g2 v14 v15 wx => ∃ j : Nat, j + g2 = q ∧ v15 = .int .i64 (j : Int) ∧ OwnZ wx w6.heap.size v14 ((W.take j).filter fun y => decide (y ≠ s)) ∧ Below w6.heap.size w6 wx)
        case atStart => exact ⟨0, by omega, rfl, OwnZ.nil _ _, Below.refl _ _⟩
        case round =>
          obtain ⟨j, hjg, rfl, hO8, hb8⟩ := hrel
          have O8 := Lib.hid hO8
          have B8 := Lib.hid hb8
          have hsz8 := hb8.size
          by_cases hlt2 : j < q
          · obtain ⟨g3, rfl⟩ : ∃ g3, gk = g3 + 1 := ⟨gk - 1, by omega⟩
            obtain ⟨y, hy⟩ : ∃ y, W[j]? = some y := ⟨W[j]'(by rw [hq'.out]; exact hlt2), List.getElem?_eq_getElem _⟩
            have hgy : gz W j = (y : Int) := by unfold gz; rw [List.getD_eq_getElem?_getD, hy]; rfl
            obtain ⟨gb, ob, rfl, hcj⟩ : ∃ gb ob, aw = some ⟨gb, ob, none⟩ ∧ wr.cell? ⟨gb, ob + j, none⟩ = some (.int .i64 (y : Int)) := by
              rcases hi6.out.on' hb8 (Nat.le_refl _) with h | ⟨b, o, rfl, h⟩
              · omega
              · exact ⟨b, o, rfl, by rw [h j hlt2, hgy]⟩
            have hj1 : (j : Int) < (q : Int) := by omega
            have hj0 : (0 : Int) ≤ (j : Int) := by omega
            have hT := Lib.hid (show (W.take (j + 1)).filter (fun y => decide (y ≠ s)) = (W.take j).filter (fun y => decide (y ≠ s)) ++ (if y = s then [] else [y]) by
              rw [take_snoc hy, List.filter_append]
              congr 1
              by_cases e : y = s
              · rw [if_pos e, List.filter_cons, if_neg (by simp [e])]; rfl
              · rw [if_neg e, List.filter_cons, if_pos (by simp [e])]; rfl)
            have hfl : ((W.take j).filter fun y => decide (y ≠ s)).length ≤ 100 := by
              have h1 := List.length_filter_le (fun y => decide (y ≠ s)) (W.take j)
              rw [List.length_take] at h1
              omega
            have hfl' := Lib.hid hfl
            clear hO8 hb8 hy hgy hfl
            by_cases hys : y = s
            · have hne : ((y : Int) != (s : Int)) = false := by subst hys; simp
              rw [if_pos hys, List.append_nil] at hT
              clear hys
              go_wp2_with fail
              go_roundg g3
              case measure => omega
              case rel => exact ⟨j + 1, by omega, by go_num, by rw [hT.out]; exact O8.out, B8.out⟩
            · have hne : ((y : Int) != (s : Int)) = true := by simp; omega
              rw [if_neg hys] at hT
              clear hys
              go_wp2_with (at_builtin; refine wpList_append_nat rfl _ _ rfl w6.heap.size _ _ rfl (O8.out.alloc _) _ _ y rfl (nat_new _ _) (by have := hfl'.out; omega) (by rw [size_alloc]; omega) ?_; intro v9 w9 ho9 hg9 hat9)
              go_roundg g3
              case measure => omega
              case rel => exact ⟨j + 1, by omega, by go_num, by rw [hT.out]; exact ho9.out, (B8.out.alloc hsz8 _).grown hg9.out (by rw [size_alloc]; omega) (fun j hj => (O8.out.block j hj).1)⟩
          · have hjn : j = q := by omega
            subst hjn
            have hTe : W.take j = W := List.take_of_length_le (by rw [hq'.out]; exact Nat.le_refl _)
            rw [hTe] at O8
            obtain ⟨N, hN⟩ : ∃ N, W.filter (fun y => decide (y ≠ s)) = N := ⟨_, rfl⟩
            rw [hN] at O8
            have hN' := Lib.hid hN
            have hNl : N.length ≤ j := by rw [← hN, ← hq'.out]; exact List.length_filter_le _ _
            clear hO8 hb8 hTe hN
            go_upto_region 23 with (at_builtin; refine wpList_append_nat rfl _ _ rfl w6.heap.size _ _ rfl (O8.out.alloc _) _ _ s rfl (nat_new _ _) (by omega) (by rw [size_alloc]; omega) ?_; intro v9 w9 ho9 hg9 hat9; obtain ⟨g9, cap9, rfl, hc9, hb9, hl9, hi9⟩ := own_some ho9.out (by rw [List.length_append, List.length_singleton]; omega); have B9 := Lib.hid (show Below w6.heap.size w6 w9 from (B8.out.alloc hsz8 _).grown hg9.out (by rw [size_alloc]; omega) (fun j hj => (O8.out.block j hj).1)); obtain ⟨NL, hNL⟩ : ∃ NL, N ++ [s] = NL := ⟨_, rfl⟩; have hNL' := Lib.hid hNL; rw [hNL] at hi9 hc9; have I9 := Lib.hid hi9; obtain ⟨p, hp⟩ : ∃ p, NL.length = p := ⟨_, rfl⟩; have hpe : (N ++ [s]).length = p := (by rw [hNL]; exact hp); have hp' := Lib.hid hp; have hpm : p ≤ m + 1 := (by rw [← hp, ← hNL, List.length_append, List.length_singleton]; omega); have hp1 : 1 ≤ p := (by rw [← hp, ← hNL, List.length_append, List.length_singleton]; omega); rw [hp] at hc9 I9; have hps : N.length + 1 = p := (by rw [← hpe, List.length_append, List.length_singleton]); clear hi9 hNL hp hpe; simp only [List.length_append, List.length_singleton, hps])
            have hCm := Lib.hid (show H6.map Sx.pos = NL.drop (p - m) from by
              rw [M6.out]
              unfold agL
              rw [hN'.out, hNL'.out, hp'.out])
            have C9 := Lib.hid (C6.out.read B9.out)
            have hoff9 : g9 ∉ foots A c6 := C6.out.l.off hb9
            by_cases hpm2 : p ≤ m
            · have hz : ¬ ((m : Int) < (p : Int)) := by omega
              have hCe : H6.map Sx.pos = NL := by rw [hCm.out, show p - m = 0 by omega, List.drop_zero]
              have hCe' := Lib.hid hCe
              have hHl := heldv C9.out
              rw [hCe] at hHl
              have hH' := Lib.hid hHl
              clear hHl hCe
              go_wp2_with (first
                | (go_at_call 12; refine hH'.out.mono ?_; rintro e w10 ⟨v10, rfl, ho10, hb10⟩; obtain ⟨a10, cap10, hv10, _, hi10⟩ := OwnZ.ints ho10; rw [hp'.out] at hv10 hi10; subst hv10; have I10 := Lib.hid hi10; have J10 := Lib.hid (I9.out.on' hb10 (Nat.le_refl _)); have C10 := Lib.hid (C9.out.read hb10); have B10 := Lib.hid hb10; clear hb10 ho10 hi10)
                | (go_at_call 14; refine (sameI_any _ _ _ _ p _ _ _ (by omega) I10.out J10.out (fun k hk => rfl)).mono ?_; rintro e w11 ⟨rfl, hb11⟩; have C11 := Lib.hid (C10.out.read hb11); have B11 := Lib.hid hb11; clear hb11))
              go_roundg gn
              case measure => omega
              case rel =>
                have h9 := want_own (F := foots A c6) (L := NL) (cap := cap9) (by rw [hp'.out]; exact I9.out) (by rw [hp'.out]; exact hc9) hoff9 hl9
                rw [hp'.out] at h9
                exact ⟨k + 1, by omega, by go_num, c6, H6, C11.out, A6.out, by have := congrArg List.length hCe'.out; rw [List.length_map, hp'.out] at this; omega, by rw [hCe'.out]; exact (h9.on B10.out).on B11.out⟩
            · have hz : (m : Int) < (p : Int) := by omega
              have hpe : p - m = 1 := by omega
              have hCe : H6.map Sx.pos = NL.drop 1 := by rw [hCm.out, hpe]
              have hCe' := Lib.hid hCe
              have hHl := heldv C9.out
              rw [hCe] at hHl
              have hH' := Lib.hid hHl
              have hdl := Lib.hid (show (NL.drop 1).length = p - 1 by rw [List.length_drop, hp'.out])
              have h9 := want_tail (F := foots A c6) (L := NL) (cap := cap9) (by rw [hp'.out]; exact I9.out) (by rw [hp'.out]; exact hc9) hoff9 hl9 (by rw [hp'.out]; exact hp1)
              rw [hp'.out] at h9
              have W9 := Lib.hid h9
              have I9b := Lib.hid (show IntsAt w9 (some ⟨g9, 1, none⟩) (p - 1) (gz (NL.drop 1)) by
                obtain ⟨a', cap', e, _, hi, _, _⟩ := h9
                rw [hdl.out] at e hi
                cases e
                exact hi)
              have hcp : ¬ (cap9 = 1) := by omega
              have hp2 : (1 : Int) ≤ (p : Int) := by omega
              clear hHl hCe h9 hpe
              go_wp2_with (first
                | (go_at_call 12; refine hH'.out.mono ?_; rintro e w10 ⟨v10, rfl, ho10, hb10⟩; obtain ⟨a10, cap10, hv10, _, hi10⟩ := OwnZ.ints ho10; rw [hdl.out] at hv10 hi10; subst hv10; have I10 := Lib.hid hi10; have J10 := Lib.hid (I9b.out.on' hb10 (Nat.le_refl _)); have C10 := Lib.hid (C9.out.read hb10); have B10 := Lib.hid hb10; clear hb10 ho10 hi10)
                | (go_at_call 14; refine (sameI_any _ _ _ _ (p - 1) _ _ _ (by omega) I10.out J10.out (fun k hk => rfl)).mono ?_; rintro e w11 ⟨rfl, hb11⟩; have C11 := Lib.hid (C10.out.read hb11); have B11 := Lib.hid hb11; clear hb11))
              go_roundg gn
              case measure => omega
              case rel => exact ⟨k + 1, by omega, by go_num, c6, H6, C11.out, A6.out, by have := congrArg List.length hCe'.out; rw [List.length_map, hdl.out] at this; omega, by rw [hCe'.out]; exact (W9.out.on B10.out).on B11.out⟩
      · have hkn : k = n := by omega
        subst hkn
        have hfq : (fr H5).length = q := by
          rw [A5.out.fr]
          have := congrArg List.length hW'.out
          rw [List.length_map, hq'.out] at this
          exact this
        obtain ⟨r, hr⟩ : ∃ r, min dr q = r := ⟨_, rfl⟩
        have hmin : min (dr : Int) (q : Int) = (r : Int) := by omega
        have hrq : r ≤ q := by omega
        go_wp2_with (go_at_call 25; refine (dropv C5.out (by omega) (n := r) (by rw [hfq]; omega)).mono ?_; rintro e w6 ⟨A6, c6, rfl, hC6, hS6⟩; rw [A5.out.drop] at hC6; have C6 := Lib.hid (hC6.read (below_drewN w6 1)); have W6 := Lib.hid ((W5.out.step hS6).on (below_drewN w6 1)); have A6' := Lib.hid (show AllF (H5.drop r) from fun x hx => A5.out x (List.mem_of_mem_drop hx)); clear hC6 hS6)
        have hHl := heldv C6.out
        rw [List.map_drop, hW'.out] at hHl
        have hH' := Lib.hid hHl
        have hdl := Lib.hid (show (W.drop r).length = q - r by rw [List.length_drop, hq'.out])
        have hcl := Lib.hid (fun x (hx : x ∈ H5.drop r) => (free_clean (A6'.out x hx)).1)
        have hi6 := Lib.hid (show IntsAt w6.drew aw q (gz W) by
          obtain ⟨a', cap', e, _, hi, _, _⟩ := W6.out
          rw [hq'.out] at e hi
          cases e
          exact hi)
        clear hHl hfq hr
        have key := Lib.hid (fun (a9 : Option Addr) (hs : IntsAt w6.drew a9 (q - r) (gz (W.drop r))) => hs)
        cases aw with
        | none =>
          have hc0 := hnw'.out rfl
          have hq0 : q = 0 := by omega
          subst hc0 hq0
          have hr0 : r = 0 := by omega
          subst hr0
          have hm0 : min (dr : Int) 0 = 0 := by omega
          go_region_held3 (fun _ => True) (first | exact trivial) (first
            | (go_at_call 12; refine hH'.out.mono ?_; rintro e w10 ⟨v10, rfl, ho10, hb10⟩; obtain ⟨a10, cap10, hv10, _, hi10⟩ := OwnZ.ints ho10; rw [hdl.out] at hv10 hi10; subst hv10; have I10 := Lib.hid hi10; have C10 := Lib.hid (C6.out.read hb10); have B10 := Lib.hid hb10; clear hb10 ho10 hi10)
            | (go_at_call 14; refine (sameI_any _ _ _ _ 0 _ _ _ (by omega) I10.out (.inl rfl) (fun k hk => rfl)).mono ?_; rintro e w11 ⟨rfl, hb11⟩; have C11 := Lib.hid (C10.out.read hb11); clear hb11)
            | (go_at_call 13; refine (dirtyv_none C11.out hcl.out).mono ?_; rintro e w13 ⟨a13, cap13, rfl, hb13⟩; have C13 := Lib.hid (C11.out.read hb13); clear hb13)
            | (go_at_call 17; refine (writes_n _ _ _ _ d0 0 C13.out.dk (congrArg List.length h0.out.2.2)).mono ?_; rintro e w14 ⟨v14, rfl, hi14, hb14⟩; have C14 := Lib.hid (C13.out.read hb14); obtain ⟨a14, cap14, rfl, _, _, _, _⟩ := hi14.slice; clear hi14 hb14)
            | (go_at_call 7; refine (awake_any _).mono ?_; rintro e w15 ⟨rfl, hb15⟩; have B15 := Lib.hid (C14.out.below.trans (hb15.mono C14.out.l.base)); clear hb15))
          all_goals (go_wp2_with fail; go_ret; exact ⟨rfl, B15.out⟩)
        | some ad =>
          obtain ⟨gb, ob, sp⟩ := ad
          obtain rfl : sp = none := (how'.out _ rfl).2.2
          have hr2 : (r : Int) ≤ (q : Int) := by omega
          have hr3 : (0 : Int) ≤ (r : Int) := by omega
          have hf6 := Lib.hid (hi6.out.from (q := r) hrq)
          by_cases hcw2 : cw = r
          · have hqr : q = r := by omega
            subst hcw2
            subst hqr
            have hdl0 := Lib.hid (show (W.drop q).length = 0 by rw [hdl.out, Nat.sub_self])
            go_region_held3 (fun _ => True) (first | exact trivial) (first
              | (go_at_call 12; refine hH'.out.mono ?_; rintro e w10 ⟨v10, rfl, ho10, hb10⟩; obtain ⟨a10, cap10, hv10, _, hi10⟩ := OwnZ.ints ho10; rw [hdl0.out] at hv10 hi10; subst hv10; have I10 := Lib.hid hi10; have C10 := Lib.hid (C6.out.read hb10); have B10 := Lib.hid hb10; clear hb10 ho10 hi10)
              | (go_at_call 14; refine (sameI_any _ _ _ _ 0 _ _ _ (by omega) I10.out (.inl rfl) (fun k hk => rfl)).mono ?_; rintro e w11 ⟨rfl, hb11⟩; have C11 := Lib.hid (C10.out.read hb11); clear hb11)
              | (go_at_call 13; refine (dirtyv_none C11.out hcl.out).mono ?_; rintro e w13 ⟨a13, cap13, rfl, hb13⟩; have C13 := Lib.hid (C11.out.read hb13); clear hb13)
              | (go_at_call 17; refine (writes_n _ _ _ _ d0 0 C13.out.dk (congrArg List.length h0.out.2.2)).mono ?_; rintro e w14 ⟨v14, rfl, hi14, hb14⟩; have C14 := Lib.hid (C13.out.read hb14); obtain ⟨a14, cap14, rfl, _, _, _, _⟩ := hi14.slice; clear hi14 hb14)
              | (go_at_call 7; refine (awake_any _).mono ?_; rintro e w15 ⟨rfl, hb15⟩; have B15 := Lib.hid (C14.out.below.trans (hb15.mono C14.out.l.base)); clear hb15))
            all_goals (go_wp2_with fail; go_ret; exact ⟨rfl, B15.out⟩)
          · go_region_held3 (fun _ => True) (first | exact trivial) (first
              | (go_at_call 12; refine hH'.out.mono ?_; rintro e w10 ⟨v10, rfl, ho10, hb10⟩; obtain ⟨a10, cap10, hv10, _, hi10⟩ := OwnZ.ints ho10; rw [hdl.out] at hv10 hi10; subst hv10; have I10 := Lib.hid hi10; have C10 := Lib.hid (C6.out.read hb10); have B10 := Lib.hid hb10; clear hb10 ho10 hi10)
              | (go_at_call 14; refine (sameI_any _ _ _ _ (q - r) _ _ _ (by omega) I10.out (hf6.out.on' B10.out (Nat.le_refl _)) (fun k hk => gz_drop W r k)).mono ?_; rintro e w11 ⟨rfl, hb11⟩; have C11 := Lib.hid (C10.out.read hb11); clear hb11)
              | (go_at_call 13; refine (dirtyv_none C11.out hcl.out).mono ?_; rintro e w13 ⟨a13, cap13, rfl, hb13⟩; have C13 := Lib.hid (C11.out.read hb13); clear hb13)
              | (go_at_call 17; refine (writes_n _ _ _ _ d0 0 C13.out.dk (congrArg List.length h0.out.2.2)).mono ?_; rintro e w14 ⟨v14, rfl, hi14, hb14⟩; have C14 := Lib.hid (C13.out.read hb14); obtain ⟨a14, cap14, rfl, _, _, _, _⟩ := hi14.slice; clear hi14 hb14)
              | (go_at_call 7; refine (awake_any _).mono ?_; rintro e w15 ⟨rfl, hb15⟩; have B15 := Lib.hid (C14.out.below.trans (hb15.mono C14.out.l.base)); clear hb15))
            all_goals (go_wp2_with fail; go_ret; exact ⟨rfl, B15.out⟩)
  · have hn2 : ¬ ((n : Int) ≤ 40) := by omega
    go_enter Try.func6, Try.ntmps6
    go_wp2_with (go_at_call 7; refine (awake_any _).mono ?_; rintro e w15 ⟨rfl, hb15⟩; have B15 := Lib.hid hb15; clear hb15)
    go_ret
    exact ⟨rfl, B15.out⟩
end Go.Proofs.Ytedbfehoeflmgaa
