/-
  DiskFalls, walked.
-/
import Derived.Test.YtabjhjipnpfnbaaQu
import Derived.Test.YtabjhjipnpfnbaaLo
import Derived.Deep.DeepCutAuto
import Derived.Deep.CutBlock
import Derived.Deep.RegionHeld3
import Derived.BigRegion
namespace Go.Proofs.Ytabjhjipnpfnbaa
open Go.RowKit BigFrame

/-- a disk of six sectors, armed, behind so many writes and flushes -/
structure LawT (d : Dk) (K : List Bool) (af n k : Nat) : Prop where
  on : d.on = true
  set : d.set = true
  secs : d.n = 6
  after : d.after + n = af
  keep : d.keep = K
  waits : d.waits.length ≤ k
  log : d.log.length ≤ k
  flushes : d.flushes ≤ k
theorem LawT.wrote {d : Dk} {K : List Bool} {af n k : Nat} (h : LawT d K af n k) (ha : 0 < d.after) (a : Nat) (l : List Nat) : LawT (d.ticked.wrote a l) K af (n + 1) (k + 1) :=
  ⟨h.on, h.set, h.secs, by have := h.after; simp only [Dk.ticked, Dk.wrote]; omega, h.keep, by have := h.waits; simp [Dk.ticked, Dk.wrote]; omega, by have := h.log; simp [Dk.ticked, Dk.wrote]; omega, by have := h.flushes; simp [Dk.ticked, Dk.wrote]; omega⟩
theorem LawT.flushed {d : Dk} {K : List Bool} {af n k : Nat} (h : LawT d K af n (k + 1)) (ha : 0 < d.after) (hf : d.flushes ≤ k) : LawT d.ticked.flushed K af (n + 1) (k + 1) :=
  ⟨h.on, h.set, h.secs, by have := h.after; simp only [Dk.ticked, Dk.flushed]; omega, h.keep, by simp [Dk.ticked, Dk.flushed], h.log, by simp [Dk.ticked, Dk.flushed]; omega⟩
def FsRel1 (w0 : World) (G : Nat) (A : Lies) (d : Dk) (gF : Nat) (g : Nat) (i : Value) (wr : World) : Prop :=
  ∃ k : Nat, k + g = 6 ∧ i = .int .i64 k ∧ Live w0 wr G A d ∧ WantsA wr (A.foot G) w0.heap.size gF 6 k (fun _ => zs 128)
/-- what a round finds -/
def FsRel2 (w0 : World) (G gF : Nat) (K : List Bool) (af c : Nat) (g : Nat) (u v nv i : Value) (wr : World) : Prop :=
  ∃ (k n : Nat) (A : Lies) (d : Dk) (V : Nat → Value), k + g = c ∧ nv = .int .i64 n ∧ i = .int .i64 k ∧ n ≤ af ∧ Live w0 wr G A d ∧ LawT d K af n k ∧ Waits w0.heap.size wr (A.foot G) gF u v d.waits V ∧ WantsA wr (A.foot G ++ rest2 u v) w0.heap.size gF 6 6 d.firm
/-- behind the rounds: the power is there, or it went -/
def FsOut (w0 : World) (G gF : Nat) (K : List Bool) (af : Nat) (u v nv : Value) (wr : World) : Prop :=
  ∃ (n : Nat) (A : Lies) (d : Dk), nv = .int .i64 n ∧ n ≤ af ∧ Live w0 wr G A d ∧
    ((d.on = true) ∨ (d.on = false ∧ d.set = false ∧ d.n = 6 ∧ d.waits.length = 0 ∧ d.log.length ≤ 30 ∧ ∃ (ws : List (Nat × List Nat)) (V : Nat → Value) (F0 : Nat → List Nat), ws.length ≤ 30 ∧ (∀ p ∈ ws, p.1 < 6 ∧ p.2.length = 128) ∧ (∀ i, i < 6 → d.firm i = appl F0 (keptN K ws ws.length) i) ∧ Waits w0.heap.size wr (A.foot G) gF u v ws V ∧ WantsA wr (A.foot G ++ rest2 u v) w0.heap.size gF 6 6 F0))
theorem one_slice {a : Option Addr} {n c : Nat} : ∀ u ∈ [Value.slice a n c], u.oneCell' = true := by
  intro u hu
  rw [List.mem_singleton] at hu
  subst hu; rfl
theorem LawT.start (K : List Bool) (af : Nat) : LawT ((Dk.fresh 6 fun _ => zs 128).armed af K) K af 0 0 := ⟨rfl, rfl, rfl, rfl, rfl, Nat.le_refl _, Nat.le_refl _, Nat.le_refl _⟩
/-- so much of what waited is laid over -/
def FsRel3 (w0 : World) (G gF : Nat) (A : Lies) (d : Dk) (u v : Value) (ws : List (Nat × List Nat)) (V : Nat → Value) (Z : Nat → Nat → List Nat) (g : Nat) (i : Value) (wr : World) : Prop :=
  ∃ k : Nat, k + g = ws.length ∧ i = .int .i64 k ∧ Live w0 wr G A d ∧ Waits w0.heap.size wr (A.foot G) gF u v ws V ∧ WantsA wr (A.foot G ++ rest2 u v) w0.heap.size gF 6 6 (Z k)
theorem alloc6_row (w : World) : (w.alloc (.cells #[.slice none 0 0, .slice none 0 0, .slice none 0 0, .slice none 0 0, .slice none 0 0, .slice none 0 0] 57)).rowIs w.heap.size 57 6 fun _ => .slice none 0 0 :=
  ⟨_, heap_alloc_new w _, rfl, fun i hi => by
    match i, hi with
    | 0, _ => rfl
    | 1, _ => rfl
    | 2, _ => rfl
    | 3, _ => rfl
    | 4, _ => rfl
    | 5, _ => rfl⟩

theorem Queue.waits {B gF nw s : Nat} {w : World} {F zz : List Nat} {u v x : Value} {V : Nat → Value} {l : List Nat} {ws : List (Nat × List Nat)} (h : Queue B w F gF u v (zz ++ [s]) (nw + 1) (fun j => if j = nw then x else V j) (updF (fun j => (wtAt ws j).2) nw l)) (hz : ws.map Prod.fst = zz) (hn : ws.length = nw) :
    Waits B w F gF u v (ws ++ [(s, l)]) (fun j => if j = nw then x else V j) := by
  have e : (ws ++ [(s, l)]).length = nw + 1 := by simp [hn]
  unfold Waits
  rw [e]
  refine h.congr (by simp [hz]) fun j hj => ?_
  by_cases ej : j = nw
  · subst ej
    rw [updF_same, wtAt_last hn]
  · rw [updF_other ej, wtAt_append (by omega)]

theorem Waits.get {B gF ga gb ca cb n k : Nat} {w : World} {F : List Nat} {ws : List (Nat × List Nat)} {V : Nat → Value} (h : Waits B w F gF (.slice (some ⟨ga, 0, none⟩) n ca) (.slice (some ⟨gb, 0, none⟩) n cb) ws V) (hn : ws.length = n) (hk : k < n) :
    ga ≠ gF ∧ gb ≠ gF ∧ w.cell? ⟨ga, k, none⟩ = some (.int .i64 (((wtAt ws k).1 : Nat) : Int)) ∧ w.cell? ⟨gb, k, none⟩ = some (V k) := by
  subst hn
  obtain ⟨ga', ca', gb', cb', e1, e2, h1, h2, h3, h4⟩ := Queue.get h (by simp) hk
  cases e1; cases e2
  rw [map_fst_get ws hk] at h3
  exact ⟨h1, h2, h3, h4⟩
theorem Off.left' {w : World} {F R : List Nat} {k : Nat} (h : Off w (F ++ R) k) : Off w F k := ⟨fun e => h.1 (List.mem_append_left _ e), h.2⟩
theorem Off.drewN {w : World} {F : List Nat} {k m : Nat} (h : Off w F k) : Off (w.drewN m) F k := (Step.of_below (below_drewN w m) F).off h
theorem Queue.drewN {B gF n m : Nat} {w : World} {F zz : List Nat} {u v : Value} {V : Nat → Value} {X : Nat → List Nat} (h : Queue B w F gF u v zz n V X) : Queue B (w.drewN m) F gF u v zz n V X := h.read (below_drewN w m)
theorem WantsA.drewN {w : World} {M : List Nat} {base gw N k m : Nat} {X : Nat → List Nat} (h : WantsA w M base gw N k X) : WantsA (w.drewN m) M base gw N k X := h.below (below_drewN w m)
theorem Kept.drewN {w : World} {M : List Nat} {gw m : Nat} {v : Value} {X : List Nat} (h : Kept w M gw v X) : Kept (w.drewN m) M gw v X := h.step (.of_below (below_drewN w m) M)
theorem appl_take (f : Nat → List Nat) (ws : List (Nat × List Nat)) {k : Nat} (h : k < ws.length) : appl f (ws.take (k + 1)) = updF (appl f (ws.take k)) (wtAt ws k).1 (wtAt ws k).2 := by
  rw [List.take_add_one, List.getElem?_eq_getElem h, Option.toList_some, appl_snoc, wtAt_get h]

theorem Waits.get2 {B gF ca cb n k : Nat} {pa pb : Option Addr} {w : World} {F : List Nat} {ws : List (Nat × List Nat)} {V : Nat → Value} (h : Waits B w F gF (.slice pa n ca) (.slice pb n cb) ws V) (hn : ws.length = n) (hk : k < n) :
    ∃ ga gb, pa = some ⟨ga, 0, none⟩ ∧ pb = some ⟨gb, 0, none⟩ := by
  subst hn
  obtain ⟨ga', ca', gb', cb', e1, e2, h1, h2, h3, h4⟩ := Queue.get h (by simp) hk
  cases e1; cases e2
  exact ⟨ga', gb', rfl, rfl⟩

set_option maxRecDepth 100000 in
set_option maxHeartbeats 8000000 in
theorem falls_in (a : Option Addr) (cap c : Nat) (R : Nat → Int) (x y : Int) (ka : Option Addr) (nk kcap : Nat) (K : List Bool) (w : World) (hc : c ≤ 30) (hx : IntsAt w a c R) (hK : K.length = nk) (hkb : nk ≤ 20) (hka : KAt w ka K) (hnil : ka = none → kcap = 0) :
    Calls Try.prog 5 #[.slice a c cap, .int .i64 x, .int .i64 y, .slice ka nk kcap] w (Woke w) := by
  have hmk := make_zrow
  have hx' := Lib.hid hx
  have hK' := Lib.hid hK
  have hka' := Lib.hid hka
  have hnil' := Lib.hid hnil
  have t1 : decide (30 < (c : Int)) = false := by simp; omega
  have t2 : decide (20 < (nk : Int)) = false := by simp; omega
  clear hx hK hka hnil
  obtain ⟨d0, hd0⟩ : ∃ d0, (Dk.fresh 6 fun _ => zs 128) = d0 := ⟨_, rfl⟩
  have e0 := Lib.hid hd0
  have h0 := Lib.hid (show d0.on = true by rw [← hd0]; rfl)
  clear hd0
  go_enter Try.func5, Try.ntmps5
  go_wp2_with (first
    | (go_at_call 9; refine (new_c _ 6 _ rfl (by omega) (by omega)).mono ?_; rw [e0.out]; rintro e w1 ⟨G, A0, rfl, hD1, hb1⟩; have L1 := Lib.hid (Live.new (Below.refl _ _) hD1 hb1); clear hD1 hb1)
    | (go_at_call 30; refine (low_c y _ 50 _ rfl (by omega) (by omega)).mono ?_; rintro e w2 ⟨af, haf, rfl, rfl⟩; obtain ⟨d, hd⟩ : ∃ d, d0.armed af K = d := ⟨_, rfl⟩; have hd' := Lib.hid hd; clear hd)
    | (go_at_call 31; refine (arm_any _ _ G A0 d0 L1.out.disk L1.out.base h0.out af (by omega) ka nk kcap K hK'.out (by omega) (hka'.out.on L1.out.below (Nat.le_refl _)) hnil'.out).mono ?_; rw [hd'.out]; rintro e w3 ⟨rfl, A, hD3, hS3⟩; have L3 := Lib.hid (L1.out.call hD3 hS3); have a6 := Lib.hid (alloc6_row w3); have b6 := Lib.hid ((Below.refl w3.heap.size w3).alloc (Nat.le_refl _) (.cells #[.slice none 0 0, .slice none 0 0, .slice none 0 0, .slice none 0 0, .slice none 0 0, .slice none 0 0] 57)); clear hD3 hS3))
  go_loopg [11] 6 (fun g i wr => FsRel1 w G A d w3.heap.size g i wr)
  case atStart => exact ⟨0, by omega, rfl, L3.out.read b6.out, ⟨_, a6.out, L3.out.fresh (Nat.le_refl _) a6.out.lt, L3.out.base, fun i h => by omega⟩⟩
  case round =>
    obtain ⟨k, hk, rfl, hL, hW⟩ := hrel
    have L := Lib.hid hL
    have W := Lib.hid hW
    clear hL hW
    by_cases hlt : k < 6
    · obtain ⟨g, rfl⟩ : ∃ g, gk = g + 1 := ⟨gk - 1, by omega⟩
      obtain ⟨⟨v, hv⟩, hf⟩ := W.out.cellAt hlt
      have hgw := Lib.hid W.out.off.1
      have hv' : (wr.alloc (.cells zrow 5)).cell? ⟨w3.heap.size, k, none⟩ = some v := cell_alloc hv _
      have hf' : (wr.alloc (.cells zrow 5)).frozen? ⟨w3.heap.size, k, none⟩ = false := (World.frozen?_alloc_past _ _ _ hgw.out.2).trans hf
      have b2 := Lib.hid ((Below.refl wr.heap.size wr).alloc (Nat.le_refl _) (.cells zrow 5))
      clear hv hf
      go_wp2_with fail
      go_roundg g
      case measure => omega
      case rel =>
        exact ⟨k + 1, by omega, by go_num, (L.out.read b2.out).set ((Step.of_below b2.out _).off hgw.out) W.out.off.2 _, (W.out.below b2.out).push (row_kept L.out.lt hgw.out.2)⟩
    · obtain rfl : k = 6 := by omega
      go_upto_block 2 with fail
      go_cut [12, 13, 14] (fun u v nv wx => FsOut w G w3.heap.size K af u v nv wx)
      case first =>
        go_wp2_with fail
        go_loopg [12, 13, 14, 15] c (fun g u v nv i wr => FsRel2 w G w3.heap.size K af c g u v nv i wr)
        case atStart =>
          refine ⟨0, 0, A, d, fun _ => nilV, by omega, rfl, rfl, by omega, L.out, ?_, ?_, ?_⟩
          · rw [← hd'.out, ← e0.out]; exact LawT.start K af
          · rw [← hd'.out, ← e0.out]; exact Queue.nil _ _ _ _ _ _
          · rw [← hd'.out, ← e0.out]
            show WantsA wr (A.foot G ++ []) w.heap.size w3.heap.size 6 6 (fun _ => zs 128)
            rw [List.append_nil]; exact W.out
        case round =>
          obtain ⟨k, n, A2, d2, V, hk, rfl, rfl, hn, hL2, hD2, hQ2, hW2⟩ := hrel
          have L2 := Lib.hid hL2
          have D2 := Lib.hid hD2
          have Q2 := Lib.hid hQ2
          have W2 := Lib.hid hW2
          clear hL2 hD2 hQ2 hW2
          by_cases hlt2 : k < c
          · obtain ⟨g, rfl⟩ : ∃ g, gk = g + 1 := ⟨gk - 1, by omega⟩
            obtain ⟨b, off, rfl, hcell⟩ : ∃ b off, a = some ⟨b, off, none⟩ ∧ w.cell? ⟨b, off + k, none⟩ = some (.int .i64 (R k)) := by
              rcases hx'.out with h | ⟨b, off, e, h⟩
              · omega
              · exact ⟨b, off, e, h k hlt2⟩
            have hbl := World.block_lt_of_cell? w _ hcell
            have hcell2 : wr.cell? ⟨b, off + k, none⟩ = some (.int .i64 (R k)) := by rw [L2.out.below.cell (p := ⟨b, off + k, none⟩) hbl]; exact hcell
            clear hcell
            obtain ⟨l, hl0⟩ : ∃ l, fillN (k : Int) 128 = l := ⟨_, rfl⟩
            have hl := Lib.hid (show l.length = 128 by rw [← hl0]; exact fillN_length _ _)
            have el := Lib.hid hl0
            clear hl0
            have haft := D2.out.after
            go_wp2_with (go_at_call 30; refine (low_c (R k) _ 6 _ rfl (by omega) (by omega)).mono ?_; rintro e w4 ⟨s, hs, rfl, rfl⟩)
            go_wp2_with (go_at_call 27; refine (fill_c (k : Int) _ 128 _ rfl (by omega)).mono ?_; rw [el.out]; rintro e w4 ⟨v4, rfl, ho4, hb4⟩; obtain ⟨g4, cap4, rfl, hc4, hg4, hlt4⟩ := ho4.at hl.out (by omega); have L4 := Lib.hid (L2.out.read hb4); have O4 := Lib.hid ho4; have F4 := Lib.hid (L2.out.fresh hg4 hlt4); have Q4 := Lib.hid (Queue.read Q2.out hb4); have W4 := Lib.hid (W2.out.below hb4); clear ho4 hb4)
            by_cases h0a : d2.after = 0
            · have t3 : decide ((n : Int) < (af : Int)) = false := by simp; omega
              have t4 : decide (n < af) = false := by simp; omega
              have hK2 := Lib.hid D2.out.keep
              go_wp2_with (go_at_call 25; refine (write_dead _ _ G A2 d2 _ s _ 128 cap4 rfl rfl L4.out.disk D2.out.on D2.out.set h0a (by rw [D2.out.secs]; exact hs)).mono ?_; rw [hK2.out]; rintro e w5 ⟨rfl, A5, hD5, hS5⟩; have L5 := Lib.hid (L4.out.call hD5 hS5); have Q5 := Lib.hid (Queue.step Q4.out hS5); have W5 := Lib.hid (W4.out.step (hS5.beside _)); clear hD5 hS5)
              go_meet
              refine ⟨n, A5, d2.crashed K, rfl, hn, L5.out, .inr ⟨rfl, rfl, D2.out.secs, rfl, Nat.le_trans D2.out.log (by omega), d2.waits, V, d2.firm, Nat.le_trans D2.out.waits (by omega), fun p hp => ?_, fun i _ => rfl, Q5.out, W5.out⟩⟩
              have := (IsDkS.fine L4.out.disk).waits p hp
              rw [D2.out.secs] at this
              exact this
            · have t3 : decide ((n : Int) < (af : Int)) = true := by simp; omega
              have t4 : decide (n < af) = true := by simp; omega
              obtain ⟨nw, hnw⟩ : ∃ nw, d2.waits.length = nw := ⟨_, rfl⟩
              have hnwk : nw ≤ k := by rw [← hnw]; exact D2.out.waits
              obtain ⟨zz, hzz⟩ : ∃ zz, d2.waits.map Prod.fst = zz := ⟨_, rfl⟩
              have hzl := Lib.hid (show zz.length = nw by rw [← hzz, ← hnw]; simp)
              have hzz' := Lib.hid hzz
              have hnw' := Lib.hid hnw
              have Q4 := Lib.hid (show Queue w.heap.size w4 (A2.foot G) w3.heap.size _ _ zz nw V (fun j => (wtAt d2.waits j).2) by rw [← hzz, ← hnw]; exact Q4.out)
              obtain ⟨d5, hd5⟩ : ∃ d5, d2.ticked.wrote s l = d5 := ⟨_, rfl⟩
              have D5 := Lib.hid (show LawT d5 K af (n + 1) (k + 1) ∧ d5.firm = d2.firm ∧ d5.waits = d2.waits ++ [(s, l)] ∧ d5.flushes ≤ k ∧ d5.after + 1 = d2.after by
                rw [← hd5]; exact ⟨D2.out.wrote (by omega) s l, rfl, rfl, D2.out.flushes, by simp only [Dk.ticked, Dk.wrote]; omega⟩)
              have hd5' := Lib.hid hd5
              obtain ⟨ii, hii, hi0', hi1', hi2'⟩ := info_parts Try.infoI
              have hii' := Lib.hid hii
              have hi0' := Lib.hid hi0'
              have hi1' := Lib.hid hi1'
              have hi2' := Lib.hid hi2'
              obtain ⟨ip, hip, hp0', hp1', hp2'⟩ := info_parts Try.infoP
              have hip' := Lib.hid hip
              have hp0' := Lib.hid hp0'
              have hp1' := Lib.hid hp1'
              have hp2' := Lib.hid hp2'
              clear hii hip hnw hzz hd5
              go_wp2_with (first
                | (go_at_call 25; refine (write_tk _ _ G A2 d2 _ s g4 0 128 cap4 l rfl rfl L4.out.disk D2.out.on D2.out.set (by omega) (by rw [D2.out.secs]; exact hs) hl.out hc4 O4.out.bat F4.out (by rw [hnw'.out]; omega) (by have := D2.out.log; omega)).mono ?_; rw [hd5'.out]; rintro e w5 ⟨rfl, A5, hD5, hS5⟩; have L5 := Lib.hid (L4.out.call hD5 hS5); have Q5 := Lib.hid (Queue.step Q4.out hS5); have W5 := Lib.hid (W4.out.step (hS5.beside _)); have b5 := Lib.hid ((Below.refl w5.heap.size w5).alloc (Nat.le_refl _) (.cells #[.int .i64 (s : Int)] 3)); have s5 := Lib.hid (show (w5.alloc (.cells #[.int .i64 (s : Int)] 3)).heap.size = w5.heap.size + 1 by simp); have o5 := Lib.hid (hzl.out ▸ World.ownsRow.alloc Q5.out.at' (.cells #[.int .i64 (s : Int)] 3)); have n5 := Lib.hid (show ∀ j u, [Value.int .i64 (s : Int)][j]? = some u → (w5.alloc (.cells #[.int .i64 (s : Int)] 3)).cell? ((⟨w5.heap.size, 0, none⟩ : Addr).add j) = some u from fun j u hu => World.news_of_block (cs := #[.int .i64 (s : Int)]) (heap_alloc_new w5 _) j u (by simpa using hu)); have B5 := Lib.hid (show w.heap.size ≤ (w5.alloc (.cells #[.int .i64 (s : Int)] 3)).heap.size from Nat.le_trans L5.out.base b5.out.size); clear hD5 hS5)
                | (at_builtin; refine wpList_append_lies _ rfl (.tmp 83) (.tmp 85) 34 rfl w.heap.size 3 ii _ 1 8 Try.underlying34 hii'.out hi0'.out hi1'.out hi2'.out (by rfl) (by decide) _ nw (icells zz) rfl o5.out ⟨w5.heap.size, 0, none⟩ 1 1 [.int .i64 (s : Int)] rfl (by rfl) n5.out one_int (by decide) (by unfold maxLen; omega) (by omega) B5.out (w5.heap.size + 1) s5.out ?_; intro g6 cap6 w6 hown6 hgrow6 hat6 hlt6; obtain ⟨hq6, hs6⟩ := Q5.out.growA (s := s) L5.out.lt W5.out.off.1.2 L5.out.base b5.out hgrow6 (hat6.imp id (fun h => by omega)) hlt6 hown6 (by rw [hzl.out]); have Q6 := Lib.hid hq6; have L6 := Lib.hid (L5.out.many hs6 (fun j hj => ⟨(Q5.out.offs j hj).1, (Q5.out.offs j hj).2.1⟩)); have W6 := Lib.hid (W5.out.step (hs6.wide _)); clear hown6 hgrow6 hat6 hlt6 hq6 hs6)
                | (go_at_call 27; refine (fill_c (k : Int) _ 128 _ rfl (by omega)).mono ?_; rw [el.out]; rintro e w7 ⟨v7, rfl, ho7, hb7⟩; have k7 := Lib.hid (ho7.kept (gw := w3.heap.size) hl.out (fun j hj => by (rcases List.mem_append.1 hj with h | h); (exact L6.out.lt j h); (exact (Q6.out.offs j h).1.2)) W6.out.off.1.2); obtain ⟨g7, cap7, rfl, _, _, _⟩ := ho7.at hl.out (by omega); have L7 := Lib.hid (L6.out.read hb7); have Q7 := Lib.hid (Queue.read Q6.out hb7); have W7 := Lib.hid (W6.out.below hb7); have b7 := Lib.hid ((Below.refl w7.heap.size w7).alloc (Nat.le_refl _) (.cells #[.slice (some ⟨g7, 0, none⟩) 128 cap7] 43)); have s7 := Lib.hid (show (w7.alloc (.cells #[.slice (some ⟨g7, 0, none⟩) 128 cap7] 43)).heap.size = w7.heap.size + 1 by simp); have o7 := Lib.hid (World.ownsRow.alloc Q7.out.bs (.cells #[.slice (some ⟨g7, 0, none⟩) 128 cap7] 43)); have n7 := Lib.hid (show ∀ j u, [Value.slice (some ⟨g7, 0, none⟩) 128 cap7][j]? = some u → (w7.alloc (.cells #[.slice (some ⟨g7, 0, none⟩) 128 cap7] 43)).cell? ((⟨w7.heap.size, 0, none⟩ : Addr).add j) = some u from fun j u hu => World.news_of_block (cs := #[.slice (some ⟨g7, 0, none⟩) 128 cap7]) (heap_alloc_new w7 _) j u (by simpa using hu)); have B7 := Lib.hid (show w.heap.size ≤ (w7.alloc (.cells #[.slice (some ⟨g7, 0, none⟩) 128 cap7] 43)).heap.size from Nat.le_trans L7.out.base b7.out.size); clear ho7 hb7)
                | (at_builtin; refine wpList_append_lies _ rfl (.tmp 87) (.tmp 90) 32 rfl w.heap.size 43 ip _ 1 24 Try.underlying32 hip'.out hp0'.out hp1'.out hp2'.out (by rfl) (by decide) _ nw ((List.range nw).map V) rfl o7.out ⟨w7.heap.size, 0, none⟩ 1 1 [.slice (some ⟨g7, 0, none⟩) 128 cap7] rfl (by rfl) n7.out one_slice (by decide) (by unfold maxLen; omega) (by omega) B7.out (w7.heap.size + 1) s7.out ?_; intro g8 cap8 w8 hown8 hgrow8 hat8 hlt8; obtain ⟨hq8, hs8⟩ := Q7.out.growB L7.out.lt W7.out.off.1.2 L7.out.base b7.out hgrow8 (hat8.imp id (fun h => by omega)) hlt8 hown8 k7.out; have Q8 := Lib.hid (show Waits w.heap.size w8 (A5.foot G) w3.heap.size _ _ d5.waits _ by rw [D5.out.2.2.1]; exact hq8.waits hzz'.out hnw'.out); have L8 := Lib.hid (L7.out.many hs8 (fun j hj => ⟨(Q7.out.offs j hj).1, (Q7.out.offs j hj).2.1⟩)); have W8 := Lib.hid (show WantsA w8 (A5.foot G ++ rest2 _ _) w.heap.size w3.heap.size 6 6 d5.firm by rw [D5.out.2.1]; exact W7.out.step (hs8.wide _)); clear hown8 hgrow8 hat8 hlt8 hq8 hs8))
              · by_cases h0b : d5.after = 0
                · have t5 : decide ((n : Int) + 1 < (af : Int)) = false := by have := D5.out.2.2.2.2; simp; omega
                  have hK2 := Lib.hid D5.out.1.keep
                  go_wp2_with (go_at_call 26; refine (flush_dead _ _ G A5 d5 L8.out.disk D5.out.1.on D5.out.1.set h0b).mono ?_; rw [hK2.out]; rintro e w9 ⟨rfl, A9, hD9, hS9⟩; have L9 := Lib.hid (L8.out.call hD9 hS9); have Q9 := Lib.hid (Queue.step Q8.out hS9); have W9 := Lib.hid (W8.out.step (hS9.beside _)); clear hD9 hS9)
                  go_meet
                  refine ⟨n + 1, A9, d5.crashed K, by go_num, by omega, L9.out, .inr ⟨rfl, rfl, D5.out.1.secs, rfl, Nat.le_trans D5.out.1.log (by omega), d5.waits, _, d5.firm, Nat.le_trans D5.out.1.waits (by omega), fun p hp => ?_, fun i _ => rfl, Q9.out, W9.out⟩⟩
                  have := (IsDkS.fine L8.out.disk).waits p hp
                  rw [D5.out.1.secs] at this
                  exact this
                · have t5 : decide ((n : Int) + 1 < (af : Int)) = true := by have := D5.out.2.2.2.2; simp; omega
                  obtain ⟨d9, hd9⟩ : ∃ d9, d5.ticked.flushed = d9 := ⟨_, rfl⟩
                  have D9 := Lib.hid (show LawT d9 K af (n + 2) (k + 1) ∧ d9.firm = appl d5.firm d5.waits ∧ d9.waits = [] by
                    rw [← hd9]; exact ⟨D5.out.1.flushed (by omega) D5.out.2.2.2.1, rfl, rfl⟩)
                  have hd9' := Lib.hid hd9
                  clear hd9
                  go_wp2_with (go_at_call 26; refine (flush_tk _ _ G A5 d5 L8.out.disk D5.out.1.on D5.out.1.set (by omega) (by have := D5.out.2.2.2.1; omega)).mono ?_; rw [hd9'.out]; rintro e w9 ⟨rfl, A9, hD9, hS9⟩; have L9 := Lib.hid (L8.out.call hD9 hS9); have Q9 := Lib.hid (Queue.step Q8.out hS9); have W9 := Lib.hid (W8.out.step (hS9.beside _)); clear hD9 hS9)
                  have e5 := Lib.hid (show d5.waits.length = nw + 1 by rw [D5.out.2.2.1]; simp [hnw'.out])
                  have hws := Lib.hid (show ∀ p ∈ d5.waits, p.1 < 6 ∧ p.2.length = 128 by
                    intro p hp
                    have := (IsDkS.fine L8.out.disk).waits p hp
                    rw [D5.out.1.secs] at this
                    exact this)
                  go_loopg [19] (nw + 1) (fun g i wr => FsRel3 w G w3.heap.size A9 d9 (.slice (some ⟨g6, 0, none⟩) (nw + 1) cap6) (.slice (some ⟨g8, 0, none⟩) (nw + 1) cap8) d5.waits (fun j => if j = nw then .slice (some ⟨g7, 0, none⟩) 128 cap7 else V j) (fun k => appl d5.firm (d5.waits.take k)) g i wr)
                  case atStart =>
                    refine ⟨0, by rw [e5.out]; omega, rfl, L9.out, Q9.out, ?_⟩
                    show WantsA w9 _ _ _ _ _ (appl d5.firm (d5.waits.take 0))
                    rw [List.take_zero]
                    exact W9.out
                  case round =>
                    obtain ⟨k3, hk3, rfl, hL3, hQ3, hW3⟩ := hrel
                    have L3 := Lib.hid hL3
                    have Q3 := Lib.hid hQ3
                    have W3 := Lib.hid hW3
                    clear hL3 hQ3 hW3
                    rw [e5.out] at hk3
                    by_cases hlt3 : k3 < nw + 1
                    · obtain ⟨g3, rfl⟩ : ∃ g3, gk = g3 + 1 := ⟨gk - 1, by omega⟩
                      obtain ⟨_, _, c1, c2⟩ := Waits.get Q3.out e5.out hlt3
                      have hkp := Queue.rows Q3.out k3 (by rw [e5.out]; exact hlt3)
                      obtain ⟨x3, hx3⟩ : ∃ x3, (if k3 = nw then Value.slice (some ⟨g7, 0, none⟩) 128 cap7 else V k3) = x3 := ⟨_, rfl⟩
                      rw [hx3] at c2 hkp
                      have hx3' := Lib.hid hx3
                      have hkp' := Lib.hid hkp
                      clear hx3
                      obtain ⟨gv, cv, rfl, _⟩ := hkp
                      obtain ⟨s3, hs3⟩ : ∃ s3, (wtAt d5.waits k3).1 = s3 := ⟨_, rfl⟩
                      have hs6 : s3 < 6 := by rw [← hs3]; exact (hws.out _ (wtAt_mem (by rw [e5.out]; exact hlt3))).1
                      have hs3' := Lib.hid hs3
                      rw [hs3] at c1
                      clear hs3
                      obtain ⟨⟨vo, hvo⟩, hvf⟩ := W3.out.cellAt hs6
                      go_wp2_with fail
                      go_region
                      go_wp2_with fail
                      go_roundg g3
                      case measure => omega
                      case rel =>
                        refine ⟨k3 + 1, by rw [e5.out]; omega, by go_num, ?_, ?_, ?_⟩
                        · exact (L3.out.drewN).set (Off.drewN (W3.out.off.1.left)) W3.out.off.2 _
                        · exact (Queue.drewN Q3.out).set
                        · show WantsA _ _ _ _ 6 6 (appl d5.firm (d5.waits.take (k3 + 1)))
                          rw [appl_take _ _ (by rw [e5.out]; exact hlt3), hs3'.out]
                          exact (WantsA.drewN W3.out).put hs6 (Kept.drewN hkp'.out)
                    · obtain rfl : k3 = nw + 1 := by omega
                      go_wp2_with fail
                      go_roundg g
                      case measure => omega
                      case rel =>
                        refine ⟨k + 1, n + 2, A9, d9, fun _ => nilV, by omega, by go_num, by go_num, by have h1 := D5.out.2.2.2.2; have h2 := D2.out.after; omega, L3.out, D9.out.1, ?_, ?_⟩
                        · rw [D9.out.2.2]; exact Queue.nil _ _ _ _ _ _
                        · have h9 := W3.out.left
                          have e9 : d5.waits.take (nw + 1) = d5.waits := by rw [← e5.out, List.take_length]
                          rw [D9.out.2.1]
                          rw [e9] at h9
                          show WantsA _ (A9.foot G ++ []) _ _ 6 6 _
                          rw [List.append_nil]; exact h9
              · go_roundg g
                case measure => omega
                case rel => exact ⟨k + 1, n + 1, A5, d5, _, by omega, by go_num, by go_num, by omega, L8.out, D5.out.1, Q8.out, W8.out⟩
          · obtain rfl : k = c := by omega
            go_wp2_with fail
            go_meet
            exact ⟨n, A2, d2, rfl, hn, L2.out, .inl D2.out.on⟩
      case rest =>
        obtain ⟨n, A2, d2, rfl, hn, hL2, hout⟩ := hcut
        have L2 := Lib.hid hL2
        clear hL2
        rcases hout with hon | ⟨hoff, hset, hn6, hw0, hlog, ws, V, F0, hwl, hws, hF, hQ, hW⟩
        · have hon' := Lib.hid hon
          clear hon
          have t6 : decide ((n : Int) ≤ (af : Int)) = true := by simp; omega
          go_wp2_with (first
            | (go_at_call 19; refine (on_any _ _ G A2 d2 L2.out.disk).mono ?_; rw [hon'.out]; rintro e w11 ⟨rfl, rfl⟩)
            | (go_at_call 8; refine (awake_any _).mono ?_; rintro e w14 ⟨rfl, hb14⟩; have L14 := Lib.hid (L2.out.read hb14); clear hb14))
          go_ret
          exact ⟨rfl, L14.out.below⟩
        · obtain ⟨nw, hnw⟩ : ∃ nw, ws.length = nw := ⟨_, rfl⟩
          obtain ⟨pa, ca, hu, _, _⟩ := own_form (Queue.at' hQ)
          rw [show (ws.map Prod.fst).length = nw by simp [hnw]] at hu
          obtain ⟨pb, cb, hv, _, _⟩ := own_form (Queue.bs hQ)
          rw [hnw] at hv
          subst hu
          subst hv
          have Q2 := Lib.hid hQ
          have W2 := Lib.hid hW
          have D2 := Lib.hid (And.intro hoff (And.intro hset (And.intro hn6 (And.intro hw0 hlog))))
          have hws' := Lib.hid hws
          have hF' := Lib.hid hF
          have hnw' := Lib.hid hnw
          clear hQ hW hoff hset hn6 hw0 hlog hws hF
          go_wp2_with (go_at_call 19; refine (on_any _ _ G A2 d2 L2.out.disk).mono ?_; rw [D2.out.1]; rintro e w11 ⟨rfl, rfl⟩)
          go_loopg [20] nw (fun g i wr => FsRel3 w G w3.heap.size A2 d2 (.slice pa nw ca) (.slice pb nw cb) ws V (fun k => appl F0 (keptN K ws k)) g i wr)
          case atStart => exact ⟨0, by omega, rfl, L2.out, Q2.out, W2.out⟩
          case round =>
            obtain ⟨k3, hk3, rfl, hL3, hQ3, hW3⟩ := hrel
            have L3 := Lib.hid hL3
            have Q3 := Lib.hid hQ3
            have W3 := Lib.hid hW3
            clear hL3 hQ3 hW3
            rw [hnw'.out] at hk3
            by_cases hlt3 : k3 < nw
            · obtain ⟨g3, rfl⟩ : ∃ g3, gk = g3 + 1 := ⟨gk - 1, by omega⟩
              by_cases hnk : nk = 0
              · subst hnk
                go_wp2_with fail
                go_roundg g3
                case measure => omega
                case rel =>
                  refine ⟨k3 + 1, by rw [hnw'.out]; omega, by go_num, L3.out, Q3.out, ?_⟩
                  have he : keptN K ws (k3 + 1) = keptN K ws k3 := by rw [keptN, show keepAt K k3 = false by simp [keepAt, hK'.out]]; simp
                  show WantsA _ _ _ _ 6 6 (appl F0 (keptN K ws (k3 + 1)))
                  rw [he]
                  exact W3.out
              · have hq : k3 % nk < nk := Nat.mod_lt _ (by omega)
                have hq0 : (0 : Int) ≤ (k3 : Int) % (nk : Int) := by omega
                have hq1 : (k3 : Int) % (nk : Int) < (nk : Int) := by omega
                obtain ⟨kb, ko, rfl, hkc2⟩ : ∃ kb ko, ka = some ⟨kb, ko, none⟩ ∧ w.cell? ⟨kb, ko + k3 % nk, none⟩ = some (.bool (K.getD (k3 % nk) false)) := by
                  rcases hka'.out with h | ⟨b, off, rfl, h⟩
                  · have := hK'.out; omega
                  · exact ⟨b, off, rfl, h (k3 % nk) (by rw [hK'.out]; exact hq)⟩
                have hkb := World.block_lt_of_cell? w _ hkc2
                rw [← L3.out.below.cell (p := ⟨kb, ko + k3 % nk, none⟩) hkb] at hkc2
                have hkat := Lib.hid (show keepAt K k3 = K.getD (k3 % nk) false by rw [keepAt, hK'.out, show decide (0 < nk) = true by simp; omega]; rfl)
                obtain ⟨kq, hkq⟩ : ∃ kq, K.getD (k3 % nk) false = kq := ⟨_, rfl⟩
                rw [hkq] at hkc2
                have hkat2 := Lib.hid (hkat.out.trans hkq)
                clear hkq hkat hkb
                have hnk0 : 0 < nk := by omega
                cases kq
                · go_wp2_with fail
                  go_roundg g3
                  case measure => omega
                  case rel =>
                    refine ⟨k3 + 1, by rw [hnw'.out]; omega, by go_num, L3.out, Q3.out, ?_⟩
                    have he : keptN K ws (k3 + 1) = keptN K ws k3 := by rw [keptN, hkat2.out]; simp
                    show WantsA _ _ _ _ 6 6 (appl F0 (keptN K ws (k3 + 1)))
                    rw [he]
                    exact W3.out
                · obtain ⟨ga, gb, rfl, rfl⟩ := Waits.get2 Q3.out hnw'.out hlt3
                  obtain ⟨_, _, c1, c2⟩ := Waits.get Q3.out hnw'.out hlt3
                  have hkp := Queue.rows Q3.out k3 (by rw [hnw'.out]; exact hlt3)
                  obtain ⟨x3, hx3⟩ : ∃ x3, V k3 = x3 := ⟨_, rfl⟩
                  rw [hx3] at c2 hkp
                  have hkp' := Lib.hid hkp
                  clear hx3
                  obtain ⟨gv, cv, rfl, _⟩ := hkp
                  obtain ⟨s3, hs3⟩ : ∃ s3, (wtAt ws k3).1 = s3 := ⟨_, rfl⟩
                  have hs6 : s3 < 6 := by rw [← hs3]; exact (hws'.out _ (wtAt_mem (by rw [hnw'.out]; exact hlt3))).1
                  have hs3' := Lib.hid hs3
                  rw [hs3] at c1
                  clear hs3
                  obtain ⟨⟨vo, hvo⟩, hvf⟩ := W3.out.cellAt hs6
                  go_wp2_with fail
                  go_region
                  go_wp2_with fail
                  go_roundg g3
                  case measure => omega
                  case rel =>
                    refine ⟨k3 + 1, by rw [hnw'.out]; omega, by go_num, ?_, ?_, ?_⟩
                    · exact (L3.out.drewN).set (Off.drewN (W3.out.off.1.left)) W3.out.off.2 _
                    · exact (Queue.drewN Q3.out).set
                    · show WantsA _ _ _ _ 6 6 (appl F0 (keptN K ws (k3 + 1)))
                      rw [keptN, hkat2.out, if_pos rfl, appl_snoc, hs3'.out]
                      exact (WantsA.drewN W3.out).put hs6 (Kept.drewN hkp'.out)
            · obtain rfl : k3 = nw := by omega
              go_wp2_with fail
              obtain ⟨X, hX⟩ : ∃ X, appl F0 (keptN K ws k3) = X := ⟨_, rfl⟩
              have hfin := Lib.hid (show ∀ i, i < 6 → d2.firm i = X i by rw [← hX, ← hnw'.out]; exact hF'.out)
              have L4 := Lib.hid (L3.out.drewN (m := 1))
              have W4 := Lib.hid (show WantsA (_ : World) (A2.foot G ++ _) w.heap.size w3.heap.size 6 6 X by rw [← hX]; exact W3.out.drewN (m := 1))
              obtain ⟨d10, hd10⟩ : ∃ d10, d2.booted = d10 := ⟨_, rfl⟩
              have D10 := Lib.hid (show d10.on = true ∧ d10.set = false ∧ d10.n = 6 ∧ d10.waits.length = 0 ∧ d10.log.length ≤ 30 by rw [← hd10]; exact ⟨rfl, D2.out.2.1, D2.out.2.2.1, D2.out.2.2.2.1, D2.out.2.2.2.2⟩)
              have hd10' := Lib.hid hd10
              obtain ⟨l, hl0⟩ : ∃ l, fillN 1 128 = l := ⟨_, rfl⟩
              have hl := Lib.hid (show l.length = 128 by rw [← hl0]; exact fillN_length _ _)
              have el := Lib.hid hl0
              clear hl0 hd10 hX
              go_region_with (first
                | (go_at_call 12; refine (image_n _ _ G A2 d2 6 X L4.out.disk D2.out.2.2.1 hfin.out).mono ?_; rintro e w23 ⟨g23, V23, bk23, rfl, hI23, hb23⟩; have L23 := Lib.hid (L4.out.read hb23); have W23 := Lib.hid (W4.out.below hb23); have I23 := Lib.hid (hI23.parts (fun i hi => by rw [← hfin.out i hi, IsDkS.len L4.out.disk (by rw [D2.out.2.2.1]; exact hi)]; omega)); clear hI23 hb23)
                | (go_at_call 15; refine (parts_same _ _ 6 6 6 X X _ (by omega) I23.out W23.out.parts (fun _ _ => rfl)).mono ?_; rintro e w24 ⟨rfl, q24, rfl⟩; have L24 := Lib.hid (L23.out.drewN (m := q24)))
                | (go_at_call 29; refine (boot_off _ _ G A2 d2 L24.out.disk D2.out.1).mono ?_; rw [hd10'.out]; rintro e w25 ⟨rfl, A10, hD25, hS25⟩; have L25 := Lib.hid (L24.out.call hD25 hS25); clear hD25 hS25)
                | (go_at_call 27; refine (fill_c 1 _ 128 _ rfl (by omega)).mono ?_; rw [el.out]; rintro e w26 ⟨v26, rfl, ho26, hb26⟩; obtain ⟨g26, cap26, rfl, hc26, hg26, hlt26⟩ := ho26.at hl.out (by omega); have L26 := Lib.hid (L25.out.read hb26); have O26 := Lib.hid ho26; have F26 := Lib.hid (L25.out.fresh hg26 hlt26); clear ho26 hb26)
                | (go_at_call 25; refine (write_ns _ _ G A10 d10 _ 0 g26 0 128 cap26 l rfl rfl L26.out.disk D10.out.1 D10.out.2.1 (by rw [D10.out.2.2.1]; omega) hl.out hc26 O26.out.bat F26.out (by rw [D10.out.2.2.2.1]; omega) (by have := D10.out.2.2.2.2; omega)).mono ?_; rintro e w27 ⟨rfl, A27, hD27, hS27⟩; have L27 := Lib.hid (L26.out.call hD27 hS27); clear hD27 hS27)
                | (go_at_call 8; refine (awake_any _).mono ?_; rintro e w28 ⟨rfl, hb28⟩; have L28 := Lib.hid (L27.out.read hb28); clear hb28))
              go_wp2_with fail
              go_ret
              exact ⟨rfl, L28.out.below⟩
set_option maxRecDepth 100000 in
theorem falls_long (a : Option Addr) (cap c : Nat) (x y : Int) (ka : Option Addr) (nk kcap : Nat) (w : World) (hc : 30 < c) :
    Calls Try.prog 5 #[.slice a c cap, .int .i64 x, .int .i64 y, .slice ka nk kcap] w (Woke w) := by
  have t1 : decide (30 < (c : Int)) = true := by simp; omega
  go_enter Try.func5, Try.ntmps5
  go_wp2_with (go_at_call 8; refine (awake_any _).mono ?_; rintro e w1 ⟨rfl, hb⟩)
  go_ret
  exact ⟨rfl, by assumption⟩
set_option maxRecDepth 100000 in
theorem falls_long2 (a : Option Addr) (cap c : Nat) (x y : Int) (ka : Option Addr) (nk kcap : Nat) (w : World) (hc : c ≤ 30) (hk : 20 < nk) :
    Calls Try.prog 5 #[.slice a c cap, .int .i64 x, .int .i64 y, .slice ka nk kcap] w (Woke w) := by
  have t1 : decide (30 < (c : Int)) = false := by simp; omega
  have t2 : decide (20 < (nk : Int)) = true := by simp; omega
  go_enter Try.func5, Try.ntmps5
  go_wp2_with (go_at_call 8; refine (awake_any _).mono ?_; rintro e w1 ⟨rfl, hb⟩)
  go_ret
  exact ⟨rfl, by assumption⟩
theorem falls_law (a : Option Addr) (cap c : Nat) (R : Nat → Int) (x y : Int) (ka : Option Addr) (nk kcap : Nat) (K : List Bool) (w : World) (hx : IntsAt w a c R) (hK : K.length = nk) (hka : KAt w ka K) (hnil : ka = none → kcap = 0) :
    Calls Try.prog 5 #[.slice a c cap, .int .i64 x, .int .i64 y, .slice ka nk kcap] w (Woke w) := by
  by_cases h : c ≤ 30
  · by_cases h2 : nk ≤ 20
    · exact falls_in a cap c R x y ka nk kcap K w h hx hK h2 hka hnil
    · exact falls_long2 a cap c x y ka nk kcap w h (by omega)
  · exact falls_long a cap c x y ka nk kcap w (by omega)
end Go.Proofs.Ytabjhjipnpfnbaa
