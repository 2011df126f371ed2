/-
  DiskPrefix, walked.
-/
import Derived.Test.YtabjhjipnpfnbaaPx
import Derived.Test.YtabjhjipnpfnbaaLo
namespace Go.Proofs.Ytabjhjipnpfnbaa
open Go.RowKit BigFrame

def PrRel1 (w0 : World) (G : Nat) (A : Lies) (d : Dk) (gw : Nat) (g : Nat) (i : Value) (wr : World) : Prop :=
  ∃ k : Nat, k + g = 5 ∧ i = .int .i64 k ∧ Live w0 wr G A d ∧ Wants wr (A.foot G) w0.heap.size gw 5 k (fun _ => zs 128)
def PrRel2 (w0 : World) (G gw m c : Nat) (g : Nat) (kv i : Value) (wr : World) : Prop :=
  ∃ (k : Nat) (A : Lies) (d : Dk), k + g = c ∧ i = .int .i64 k ∧ Live w0 wr G A d ∧ Law5 d k ∧ Flags w0.heap.size wr (A.foot G) kv k (kl m k) ∧ Wants wr (A.foot G ++ kv.ownBlock.toList) w0.heap.size gw 5 5 (appl (fun _ => zs 128) (keptB m d.waits k))
def PrRel3 (w0 : World) (G : Nat) (A : Lies) (d : Dk) (gw : Nat) (X : Nat → List Nat) (g : Nat) (i : Value) (wr : World) : Prop :=
  ∃ k : Nat, k + g = 5 ∧ i = .int .i64 k ∧ Live w0 wr G A d ∧ Wants wr (A.foot G) w0.heap.size gw 5 5 X

set_option maxRecDepth 100000 in
set_option maxHeartbeats 4000000 in
theorem prefix_in (a : Option Addr) (cap c : Nat) (R : Nat → Int) (x : Int) (w : World) (hc : c ≤ 20) (hx : IntsAt w a c R) :
    Calls Try.prog 7 #[.slice a c cap, .int .i64 x] w (Woke w) := by
  have hmk := make_zrow
  have hmk5 := make_nils5
  have hx' := Lib.hid hx
  clear hx
  obtain ⟨d0, hd0⟩ : ∃ d0, (Dk.fresh 5 fun _ => zs 128) = d0 := ⟨_, rfl⟩
  have h0 := Lib.hid (show Law5 d0 0 ∧ d0.waits = [] by rw [← hd0]; exact ⟨Law5.start, rfl⟩)
  have e0 := Lib.hid hd0
  clear hd0
  go_enter Try.func7, Try.ntmps7
  go_wp2_with (go_at_call 30; refine (low_c x _ (c + 1) _ (by omega) (by omega) (by omega)).mono ?_; rintro e w1 ⟨m, hm, rfl, rfl⟩)
  go_wp2_with (go_at_call 9; refine (new_c _ 5 _ rfl (by omega) (by omega)).mono ?_; rw [e0.out]; rintro e w1 ⟨G, A, rfl, hD1, hb1⟩; have L1 := Lib.hid (Live.new (Below.refl _ _) hD1 hb1); clear hD1 hb1)
  have bw := Lib.hid ((Below.refl w1.heap.size w1).alloc (Nat.le_refl _) (.cells (nils 5) 43))
  go_loopg [7] 5 (fun g i wr => PrRel1 w G A d0 w1.heap.size g i wr)
  case atStart => exact ⟨0, by omega, rfl, L1.out.read bw.out, wants_new L1.out.lt L1.out.base 5 _⟩
  case round =>
    obtain ⟨k, hk, rfl, hL, hW⟩ := hrel
    have L := Lib.hid hL
    have W := Lib.hid hW
    clear hL hW
    by_cases hlt : k < 5
    · obtain ⟨g, rfl⟩ : ∃ g, gk = g + 1 := ⟨gk - 1, by omega⟩
      obtain ⟨⟨v, hv⟩, hf⟩ := W.out.cellAt hlt
      have hgw := Lib.hid W.out.off.1
      have hv' : (wr.alloc (.cells zrow 5)).cell? ⟨w1.heap.size, k, none⟩ = some v := cell_alloc hv _
      have hf' : (wr.alloc (.cells zrow 5)).frozen? ⟨w1.heap.size, k, none⟩ = false := (World.frozen?_alloc_past _ _ _ hgw.out.2).trans hf
      have b2 := Lib.hid ((Below.refl wr.heap.size wr).alloc (Nat.le_refl _) (.cells zrow 5))
      clear hv hf
      go_wp2_with fail
      go_roundg g
      case measure => omega
      case rel =>
        exact ⟨k + 1, by omega, by go_num, (L.out.read b2.out).set ((Step.of_below b2.out _).off hgw.out) W.out.off.2 _, (W.out.below b2.out).push (row_kept L.out.lt hgw.out.2)⟩
    · obtain rfl : k = 5 := by omega
      go_wp2_with fail
      go_loopg [8, 9] c (fun g kv i wr2 => PrRel2 w G w1.heap.size m c g kv i wr2)
      case atStart => exact ⟨0, A, d0, by omega, rfl, L.out, h0.out.1, Flags.nil _ _ _, by simpa [Value.ownBlock, keptB, appl] using W.out⟩
      case round =>
        obtain ⟨k, A2, d2, hk, rfl, hL2, hD2, hF2, hW2⟩ := hrel
        have L2 := Lib.hid hL2
        have D2 := Lib.hid hD2
        have F2 := Lib.hid hF2
        have W2 := Lib.hid hW2
        clear hL2 hD2 hF2 hW2
        by_cases hlt2 : k < c
        · obtain ⟨g, rfl⟩ : ∃ g, gk = g + 1 := ⟨gk - 1, by omega⟩
          obtain ⟨b, off, rfl, hcell⟩ : ∃ b off, a = some ⟨b, off, none⟩ ∧ w.cell? ⟨b, off + k, none⟩ = some (.int .i64 (R k)) := by
            rcases hx'.out with h | ⟨b, off, e, h⟩
            · omega
            · exact ⟨b, off, e, h k hlt2⟩
          have hbl := World.block_lt_of_cell? w _ hcell
          have hcell2 : wr.cell? ⟨b, off + k, none⟩ = some (.int .i64 (R k)) := by rw [L2.out.below.cell (p := ⟨b, off + k, none⟩) hbl]; exact hcell
          clear hcell
          obtain ⟨l, hl0⟩ : ∃ l, fillN (k : Int) 128 = l := ⟨_, rfl⟩
          have hl := Lib.hid (show l.length = 128 by rw [← hl0]; exact fillN_length _ _)
          have el := Lib.hid hl0
          clear hl0
          obtain ⟨ik, hik, hz0, hz1, hz2⟩ := info_parts Try.infoK
          have hik' := Lib.hid hik
          have hz0' := Lib.hid hz0
          have hz1' := Lib.hid hz1
          have hz2' := Lib.hid hz2
          clear hik hz0 hz1 hz2
          by_cases hkm : k < m
          · have t1 : decide (k < m) = true := by simpa using hkm
            have t2 : decide ((k : Int) < (m : Int)) = true := by simp; omega
            have hkl := Lib.hid (show kcells (kl m k) ++ [Value.bool true] = kcells (kl m (k + 1)) by rw [kl_succ, show decide (k < m) = true by simpa using hkm]; simp [kcells])
            go_wp2_with (go_at_call 30; refine (low_c (R k) _ 5 _ rfl (by omega) (by omega)).mono ?_; rintro e w3 ⟨s, hs, rfl, rfl⟩)
            go_wp2_with (go_at_call 27; refine (fill_c (k : Int) _ 128 _ rfl (by omega)).mono ?_; rw [el.out]; rintro e w4 ⟨v4, rfl, ho4, hb4⟩; obtain ⟨g4, cap4, rfl, hc4, hg4, hlt4⟩ := ho4.at hl.out (by omega); have L4 := Lib.hid (L2.out.read hb4); have O4 := Lib.hid ho4; have Q4 := Lib.hid (L2.out.fresh hg4 hlt4); have F4 := Lib.hid (F2.out.read hb4); have W4 := Lib.hid (W2.out.below hb4); clear ho4 hb4)
            go_wp2_with (first
              | (go_at_call 25; refine (write_ns _ _ G A2 d2 _ s g4 0 128 cap4 l rfl rfl L4.out.disk D2.out.on D2.out.set (by rw [D2.out.n]; exact hs) hl.out hc4 O4.out.bat Q4.out (by rw [D2.out.waits]; omega) (by rw [D2.out.log]; omega)).mono ?_; rintro e w5 ⟨rfl, A5, hD5, hS5⟩; have L5 := Lib.hid (L4.out.call hD5 hS5); have F5 := Lib.hid (F4.out.step hS5); have W5 := Lib.hid (W4.out.step (hS5.beside _)); have b5 := Lib.hid ((Below.refl w5.heap.size w5).alloc (Nat.le_refl _) (.cells #[.bool true] 4)); have b5s := Lib.hid (show (w5.alloc (.cells #[.bool true] 4)).heap.size = w5.heap.size + 1 by simp); have O5 := Lib.hid (World.ownsRow.alloc F5.out.own (.cells #[.bool true] 4)); have N5 := Lib.hid (show ∀ j u, [Value.bool true][j]? = some u → (w5.alloc (.cells #[.bool true] 4)).cell? ((⟨w5.heap.size, 0, none⟩ : Addr).add j) = some u from fun j u hu => World.news_of_block (cs := #[.bool true]) (heap_alloc_new w5 _) j u (by simpa using hu)); have B5 := Lib.hid (show w.heap.size ≤ (w5.alloc (.cells #[.bool true] 4)).heap.size from Nat.le_trans L5.out.base b5.out.size); clear hD5 hS5)
              | (at_builtin; refine wpList_append_lies _ rfl (.tmp 52) (.tmp 56) 28 rfl w.heap.size 4 ik _ 1 1 Try.underlying28 hik'.out hz0'.out hz1'.out hz2'.out (by rfl) (by decide) _ k (kcells (kl m k)) rfl O5.out ⟨w5.heap.size, 0, none⟩ 1 1 [.bool true] rfl (by rfl) N5.out (kcells_one [true]) (by decide) (by unfold maxLen; omega) (by omega) B5.out (w5.heap.size + 1) b5s.out ?_; intro g6 cap6 w6 hown6 hgrow6 hat6 hlt6; have V6 := Lib.hid hown6; have R6 := Lib.hid hgrow6; have A6 := Lib.hid hat6; have T6 := Lib.hid hlt6; clear hown6 hgrow6 hat6 hlt6; obtain ⟨r1, r2, r3, r4⟩ := beside_grown L5.out b5.out R6.out (A6.out.imp id (fun h => by omega)) T6.out F5.out.off; have L6 := Lib.hid r1; have W6 := Lib.hid (W5.out.step r2); have F6 := Lib.hid (F5.out.grown L5.out b5.out R6.out (A6.out.imp id (fun h => by omega)) T6.out (hkl.out ▸ V6.out)); clear r1 r2 r3 r4)
              | (go_at_call 27; refine (fill_c (k : Int) _ 128 _ rfl (by omega)).mono ?_; rw [el.out]; rintro e w7 ⟨v7, rfl, ho7, hb7⟩; have K7 := Lib.hid (ho7.kept (M := A5.foot G ++ [g6]) (gw := w1.heap.size) hl.out (fun j hj => by (rcases List.mem_append.1 hj with h | h); (exact L6.out.lt j h); (rw [List.mem_singleton] at h; subst h; exact T6.out)) W6.out.off.1.2); obtain ⟨g7, cap7, rfl, _, _, _⟩ := ho7.at hl.out (by omega); have L7 := Lib.hid (L6.out.read hb7); have W7 := Lib.hid (W6.out.below hb7); have F7 := Lib.hid (F6.out.read hb7); obtain ⟨⟨v, hv⟩, hf⟩ := W7.out.cellAt hs; clear ho7 hb7))
            go_roundg g
            case measure => omega
            case rel =>
              refine ⟨k + 1, A5, d2.wrote s l, by omega, by go_num, L7.out.set W7.out.off.1.left W7.out.off.2 _, D2.out.wrote _ _, F7.out.set (fun h => W7.out.off.1.1 (List.mem_append_right _ h)), (W7.out.put hs K7.out).congr (fun i _ => ?_)⟩
              show appl _ (keptB m (d2.waits ++ [(s, l)]) (k + 1)) i = _
              rw [keptB, if_pos hkm, keptB_append _ _ _ _ (by rw [D2.out.waits]; exact Nat.le_refl _), wtAt_last D2.out.waits, appl_snoc]
          · have t1 : decide (k < m) = false := by simpa using hkm
            have t2 : decide ((k : Int) < (m : Int)) = false := by simp; omega
            have hkl := Lib.hid (show kcells (kl m k) ++ [Value.bool false] = kcells (kl m (k + 1)) by rw [kl_succ, show decide (k < m) = false by simpa using hkm]; simp [kcells])
            go_wp2_with (go_at_call 30; refine (low_c (R k) _ 5 _ rfl (by omega) (by omega)).mono ?_; rintro e w3 ⟨s, hs, rfl, rfl⟩)
            go_wp2_with (go_at_call 27; refine (fill_c (k : Int) _ 128 _ rfl (by omega)).mono ?_; rw [el.out]; rintro e w4 ⟨v4, rfl, ho4, hb4⟩; obtain ⟨g4, cap4, rfl, hc4, hg4, hlt4⟩ := ho4.at hl.out (by omega); have L4 := Lib.hid (L2.out.read hb4); have O4 := Lib.hid ho4; have Q4 := Lib.hid (L2.out.fresh hg4 hlt4); have F4 := Lib.hid (F2.out.read hb4); have W4 := Lib.hid (W2.out.below hb4); clear ho4 hb4)
            go_wp2_with (first
              | (go_at_call 25; refine (write_ns _ _ G A2 d2 _ s g4 0 128 cap4 l rfl rfl L4.out.disk D2.out.on D2.out.set (by rw [D2.out.n]; exact hs) hl.out hc4 O4.out.bat Q4.out (by rw [D2.out.waits]; omega) (by rw [D2.out.log]; omega)).mono ?_; rintro e w5 ⟨rfl, A5, hD5, hS5⟩; have L5 := Lib.hid (L4.out.call hD5 hS5); have F5 := Lib.hid (F4.out.step hS5); have W5 := Lib.hid (W4.out.step (hS5.beside _)); have b5 := Lib.hid ((Below.refl w5.heap.size w5).alloc (Nat.le_refl _) (.cells #[.bool false] 4)); have b5s := Lib.hid (show (w5.alloc (.cells #[.bool false] 4)).heap.size = w5.heap.size + 1 by simp); have O5 := Lib.hid (World.ownsRow.alloc F5.out.own (.cells #[.bool false] 4)); have N5 := Lib.hid (show ∀ j u, [Value.bool false][j]? = some u → (w5.alloc (.cells #[.bool false] 4)).cell? ((⟨w5.heap.size, 0, none⟩ : Addr).add j) = some u from fun j u hu => World.news_of_block (cs := #[.bool false]) (heap_alloc_new w5 _) j u (by simpa using hu)); have B5 := Lib.hid (show w.heap.size ≤ (w5.alloc (.cells #[.bool false] 4)).heap.size from Nat.le_trans L5.out.base b5.out.size); clear hD5 hS5)
              | (at_builtin; refine wpList_append_lies _ rfl (.tmp 52) (.tmp 56) 28 rfl w.heap.size 4 ik _ 1 1 Try.underlying28 hik'.out hz0'.out hz1'.out hz2'.out (by rfl) (by decide) _ k (kcells (kl m k)) rfl O5.out ⟨w5.heap.size, 0, none⟩ 1 1 [.bool false] rfl (by rfl) N5.out (kcells_one [false]) (by decide) (by unfold maxLen; omega) (by omega) B5.out (w5.heap.size + 1) b5s.out ?_; intro g6 cap6 w6 hown6 hgrow6 hat6 hlt6; have V6 := Lib.hid hown6; have R6 := Lib.hid hgrow6; have A6 := Lib.hid hat6; have T6 := Lib.hid hlt6; clear hown6 hgrow6 hat6 hlt6))
            go_roundg g
            case measure => omega
            case rel =>
              obtain ⟨r1, r2, r3, r4⟩ := beside_grown L5.out b5.out R6.out (A6.out.imp id (fun h => by omega)) T6.out F5.out.off
              refine ⟨k + 1, A5, d2.wrote s l, by omega, by go_num, r1, D2.out.wrote _ _, F5.out.grown L5.out b5.out R6.out (A6.out.imp id (fun h => by omega)) T6.out (hkl.out ▸ V6.out), (W5.out.step r2).congr (fun i _ => ?_)⟩
              show appl _ (keptB m (d2.waits ++ [(s, l)]) (k + 1)) i = _
              rw [keptB, if_neg hkm, List.append_nil, keptB_append _ _ _ _ (by rw [D2.out.waits]; exact Nat.le_refl _)]
        · obtain rfl : k = c := by omega
          obtain ⟨ka, kcap, rfl, hkc, hka, hkb⟩ := own_kat F2.out.own (kl_length m k)
          have hka' := Lib.hid hka
          have hbs := Lib.hid (show Beside ka k G A2 from fun b o h1 h2 => by
            have h3 := (F2.out.off b (hkb b o h1 h2)).1.1
            exact ⟨fun e => h3 (e ▸ mem_foot_f G A2), fun e => h3 (e ▸ mem_foot_s G A2), fun e => h3 (e ▸ mem_foot_g G A2)⟩)
          clear hka hkb
          obtain ⟨X, hX0⟩ : ∃ X, appl (fun _ => zs 128) (keptB m d2.waits k) = X := ⟨_, rfl⟩
          obtain ⟨d3, hd3⟩ : ∃ d3, d2.crashed (kl m k) = d3 := ⟨_, rfl⟩
          obtain ⟨d4, hd4⟩ : ∃ d4, d3.booted = d4 := ⟨_, rfl⟩
          have h3 := Lib.hid (show d3.on = false ∧ d3.n = 5 ∧ d3.log.length = k ∧ ∀ i, i < 5 → d3.firm i = X i by
            rw [← hd3, ← hX0]
            refine ⟨rfl, D2.out.n, D2.out.log, fun i _ => ?_⟩
            show appl d2.firm (keptN (kl m k) d2.waits d2.waits.length) i = _
            rw [D2.out.firm, D2.out.waits, keptN_kl m k d2.waits k (Nat.le_refl _)])
          have h4 := Lib.hid (show d4.on = true ∧ d4.n = 5 ∧ ∀ i, i < 5 → d4.seen i = X i by
            rw [← hd4]
            refine ⟨rfl, h3.out.2.1, fun i hi => ?_⟩
            rw [← h3.out.2.2.2 i hi, ← hd3]; rfl)
          have e3 := Lib.hid hd3
          have e4 := Lib.hid hd4
          have W2b := Lib.hid (hX0 ▸ W2.out)
          clear hd3 hd4 hX0
          go_wp2_with (go_at_call 28; refine (crash_any _ _ G A2 d2 L2.out.disk ka k kcap (kl m k) (kl_length m k) hkc (by omega) hka'.out hbs.out).mono ?_; rw [e3.out]; rintro e w3 ⟨rfl, A3, hD3, hS3⟩; have L3 := Lib.hid (L2.out.call hD3 hS3); have W3 := Lib.hid (W2b.out.step (hS3.beside _)).left; clear hD3 hS3)
          go_wp2_with (go_at_call 12; refine (image_n _ _ G A3 d3 5 X L3.out.disk h3.out.2.1 h3.out.2.2.2).mono ?_; rintro e w4 ⟨g4, V4, bk4, rfl, hI4, hb4⟩; have L4 := Lib.hid (L3.out.read hb4); have W4 := Lib.hid (W3.out.below hb4); have I4 := Lib.hid (hI4.parts (fun i hi => by rw [← h3.out.2.2.2 i hi, IsDkS.len L3.out.disk (by rw [h3.out.2.1]; exact hi)]; omega)); clear hI4 hb4)
          go_wp2_with (go_at_call 15; refine (parts_same _ _ 5 5 5 X X _ (by omega) I4.out W4.out.parts (fun _ _ => rfl)).mono ?_; rintro e w5 ⟨rfl, q5, rfl⟩)
          have L5 := Lib.hid (L4.out.drewN (m := q5))
          have W5 := Lib.hid (W4.out.below (below_drewN w4 q5))
          go_wp2_with (go_at_call 14; refine (writes_n _ _ G A3 d3 k L5.out.disk h3.out.2.2.1).mono ?_; rintro e w6 ⟨v6, rfl, ho6, hb6⟩; have L6 := Lib.hid (L5.out.read hb6); have W6 := Lib.hid (W5.out.below hb6); obtain ⟨a6, cap6, rfl, _, _, _, _, _⟩ := ho6.slice; clear ho6 hb6)
          go_wp2_with (go_at_call 29; refine (boot_off _ _ G A3 d3 L6.out.disk h3.out.1).mono ?_; rw [e4.out]; rintro e w7 ⟨rfl, A7, hD7, hS7⟩; have L7 := Lib.hid (L6.out.call hD7 hS7); have W7 := Lib.hid (W6.out.step hS7); clear hD7 hS7)
          go_loopg [11] 5 (fun g i wr3 => PrRel3 w G A7 d4 w1.heap.size X g i wr3)
          case atStart => exact ⟨0, by omega, rfl, L7.out, W7.out⟩
          case round =>
            obtain ⟨j, hj, rfl, hL8, hW8⟩ := hrel
            have L8 := Lib.hid hL8
            have W8 := Lib.hid hW8
            clear hL8 hW8
            by_cases hlt3 : j < 5
            · obtain ⟨g, rfl⟩ : ∃ g, gk = g + 1 := ⟨gk - 1, by omega⟩
              go_wp2_with (go_at_call 24; refine (read_c _ _ G A7 d4 _ j (X j) rfl L8.out.disk h4.out.1 (by rw [h4.out.2.1]; exact hlt3) (h4.out.2.2 j hlt3)).mono ?_; rintro e w9 ⟨v9, rfl, ho9, hb9⟩; have L9 := Lib.hid (L8.out.read hb9); have W9 := Lib.hid (W8.out.below hb9); obtain ⟨g10, cap10, hc10, hl10, hx10⟩ := W9.out.get hlt3 (Nat.le_refl _); obtain ⟨g9, cap9, rfl, _, _, _⟩ := ho9.at hl10 (by omega); have hl10' := Lib.hid hl10; have hx10' := Lib.hid hx10; have O9 := Lib.hid ho9; clear ho9 hb9 hl10 hx10)
              go_wp2_with (go_at_call 32; refine (same_same _ _ _ _ 128 (X j) (X j) _ hl10'.out rfl (by omega) O9.out.bat hx10'.out).mono ?_; rintro e w11 ⟨rfl, hb11⟩; have L11 := Lib.hid (L9.out.read hb11); have W11 := Lib.hid (W9.out.below hb11); clear hb11)
              go_roundg g
              case measure => omega
              case rel => exact ⟨j + 1, by omega, by go_num, L11.out, W11.out⟩
            · obtain rfl : j = 5 := by omega
              go_wp2_with (go_at_call 8; refine (awake_any _).mono ?_; rintro e w12 ⟨rfl, hb12⟩; have L12 := Lib.hid (L8.out.read hb12); clear hb12)
              go_ret
              exact ⟨rfl, L12.out.below⟩
theorem prefix_long (a : Option Addr) (cap c : Nat) (x : Int) (w : World) (hc : 20 < c) :
    Calls Try.prog 7 #[.slice a c cap, .int .i64 x] w (Woke w) := by
  go_enter Try.func7, Try.ntmps7
  go_wp2_with (go_at_call 8; refine (awake_any _).mono ?_; rintro e w1 ⟨rfl, hb⟩)
  go_ret
  exact ⟨rfl, by assumption⟩
theorem prefix_law (a : Option Addr) (cap c : Nat) (R : Nat → Int) (x : Int) (w : World) (hx : IntsAt w a c R) :
    Calls Try.prog 7 #[.slice a c cap, .int .i64 x] w (Woke w) := by
  by_cases h : c ≤ 20
  · exact prefix_in a cap c R x w h hx
  · exact prefix_long a cap c x w (by omega)
end Go.Proofs.Ytabjhjipnpfnbaa
