/-
  Each sector is one thing alone: the walk.
-/
import Derived.Test.YtlhcfjkheifnpaaGn
import Derived.Test.YtlhcfjkheifnpaaGw
import Derived.Test.YtlhcfjkheifnpaaLo
namespace Go.Proofs.Ytlhcfjkheifnpaa
open Go.RowKit BigFrame

theorem frozen_row {w : World} {g : Nat} {cs : Array Value} {t : TypeId} (h : w.heap[g]? = some (.cells cs t (0, 0))) (k : Nat) : w.frozen? ⟨g, k, none⟩ = false := by simp [World.frozen?, h]
/-- integers made, all of them 0 -/
theorem wpList_make_zeros {w : World} {ops : Array Oper} {rest : List Oper} {o : Oper} {a : Act} {Q : Exit → Act → World → Prop} (hg : o.guard = none) (l c : Operand) (hop : o.op = Op.makeSlice 32 l c)
    (n : Nat) (hl : a.eval l = .int .i64 (n : Int)) (hc : a.eval c = .int .i64 (n : Int)) (hn : n ≤ 1000000)
    (hK : ∀ g w1, At g n (fun _ => 0) w1 → w.heap.size ≤ g → g < w1.heap.size → Below w.heap.size w w1 → wpList Try.prog ops Q rest (a.put o.dst (.slice (some ⟨g, 0, none⟩) n n)) w1) :
    wpList Try.prog ops Q (o :: rest) a w := by
  obtain ⟨i, hi, hz0, hz1, hz2⟩ := info_parts Try.infoI
  refine wpList_make_row w hg l c 32 hop 3 i (.int .i64 0) Try.underlying32 hi hz0 hz1 rfl .i64 .i64 n hl hc (by rw [hz2]; omega) (by omega) ?_
  have h := heap_alloc_new w (.cells (madeCells #[Value.int .i64 0] n) 3)
  refine hK _ _ (fun p hp => ⟨?_, ?_⟩) (Nat.le_refl _) (Array.getElem?_eq_some_iff.1 h).1 ((Below.refl _ _).alloc (Nat.le_refl _) _)
  · rw [cell_of_row _ w.heap.size _ _ _ _ h]
    have hs : p < (madeCells #[Value.int .i64 0] n).size := by simp [size_madeCells]; omega
    simp [hs]
    simp [madeCells, Nat.mod_one]
  · exact frozen_row h p

/-- the geometry, and n counts in block q -/
structure PartS (w : World) (q n : Nat) (g i b : Int) (D : Nat → Int) (wr : World) : Prop where
  box : BoxAt wr w.heap.size g i b
  cnt : At q n D wr
  lo : w.heap.size < q
  lt : q < wr.heap.size
  bl : Below w.heap.size w wr
variable {w wr w' : World} {q n : Nat} {g i b : Int} {D E : Nat → Int}
theorem PartS.on (h : PartS w q n g i b D wr) (hb : Below wr.heap.size wr w') : PartS w q n g i b D w' :=
  ⟨box_on hb h.box, h.cnt.on hb h.lt, h.lo, Nat.lt_of_lt_of_le h.lt hb.size, below_two h.bl hb⟩
theorem PartS.set (h : PartS w q n g i b D wr) {p : Nat} (hp : p < n) (v : Int) (he : ∀ s, s < n → E s = upd D p v s) : PartS w q n g i b E (wr.setCell ⟨q, p, none⟩ (.int .i64 v)) := by
  refine ⟨?_, (h.cnt.setCell hp v).congr he, h.lo, ?_, h.bl.setCell (by show w.heap.size ≤ q; have := h.lo; omega) _⟩
  · obtain ⟨c0, c1, c2, hl⟩ := h.box
    have hne : w.heap.size ≠ q := by have := h.lo; omega
    refine ⟨?_, ?_, ?_, ?_⟩
    · rw [World.cell?_setCell_other _ _ _ _ (by intro h; exact hne (Addr.mk.inj h).1.symm)]; exact c0
    · rw [World.cell?_setCell_other _ _ _ _ (by intro h; exact hne (Addr.mk.inj h).1.symm)]; exact c1
    · rw [World.cell?_setCell_other _ _ _ _ (by intro h; exact hne (Addr.mk.inj h).1.symm)]; exact c2
    · simpa [World.setCell] using hl
  · simpa [World.setCell] using h.lt
theorem PartS.congr (h : PartS w q n g i b D wr) (he : ∀ s, s < n → E s = D s) : PartS w q n g i b E wr := ⟨h.box, h.cnt.congr he, h.lo, h.lt, h.bl⟩
theorem PartS.cell (h : PartS w q n g i b D wr) {p : Nat} (hp : p < n) {v : Int} (hv : D p = v) : wr.cell? ⟨q, p, none⟩ = some (.int .i64 v) ∧ wr.frozen? ⟨q, p, none⟩ = false := by
  rw [← hv]; exact h.cnt p hp
theorem BoxAt.to {G I B : Int} {g i b a : Nat} (h : BoxAt wr a G I B) (ok : Geom G I B g i b) : BoxAt wr a g i b := by
  obtain ⟨rfl, rfl, rfl, _⟩ := ok
  exact h
theorem low_geom {k0 k1 k2 : Nat} (h0 : k0 < 8) (h1 : k1 < 8) (h2 : k2 < 81) : ∃ g i b, Geom (1 + (k0 : Int)) (4 + 4 * (k1 : Int)) (16 + (k2 : Int)) g i b :=
  ⟨1 + k0, 4 + 4 * k1, 16 + k2, by omega, by omega, by omega, by constructor <;> omega⟩

theorem parts_bd {g i b P n : Nat} (ok : Ok g i b) (hP : P = spanN i b) (hn : n = 2 + g * P) : 20 ≤ n ∧ n ≤ 1000 := by
  obtain ⟨g1, g2, i1, i2, i4, b1, b2⟩ := ok
  have h1 : P ≤ 105 := by rw [hP]; unfold spanN; omega
  have h2 : 18 ≤ P := by rw [hP]; unfold spanN; omega
  have h3 := Nat.mul_le_mul g2 h1
  have h4 := Nat.mul_le_mul g1 h2
  omega

theorem cnt1_two (P s : Nat) : cnt1 P 0 s = upd (upd (fun _ => 0) 0 1) 1 1 s := by
  rw [cnt1_start]
  unfold upd
  dsimp only
  repeat' split
  all_goals first | rfl | omega
def Parts1 (w : World) (q n g i b P : Nat) (K : Value) (wr : World) : Prop := ∃ k : Nat, k ≤ g ∧ K = .int .i64 (k : Int) ∧ PartS w q n g i b (cnt1 P k) wr
def Parts2 (w : World) (q n g i b P h N : Nat) (K : Value) (wr : World) : Prop := ∃ m : Nat, m ≤ N ∧ K = .int .i64 ((m + 1 : Nat) : Int) ∧ PartS w q n g i b (cnt2 P h i m) wr
def Parts3 (w : World) (q n g i b P h : Nat) (M K : Value) (wr : World) : Prop := ∃ t : Nat, t ≤ n ∧ K = .int .i64 (t : Int) ∧ M = .int .i64 ((blocksTo P h b t : Nat) : Int) ∧ PartS w q n g i b (cnt3 P h t) wr
def Parts4 (w : World) (q n g i b : Nat) (K : Value) (wr : World) : Prop := ∃ t : Nat, t ≤ n ∧ K = .int .i64 (t : Int) ∧ PartS w q n g i b (fun _ => 1) wr

set_option maxRecDepth 100000 in
set_option maxHeartbeats 1000000 in
theorem parts_any (x0 x1 x2 : Int) (w : World) : Calls Try.prog 4 #[.int .i64 x0, .int .i64 x1, .int .i64 x2] w (Tells (.bool true) w) := by
  have tk0 := Lib.hid trivial
  go_enter Try.func4, Try.ntmps4
  go_wp2_with (first
    | (go_at_call_of 25 x0; refine (low_c x0 _ 8 _ (by omega) (by omega) (by omega)).mono ?_; rintro e w1 ⟨k0, hk0, rfl, rfl⟩)
    | (go_at_call_of 25 x1; refine (low_c x1 _ 8 _ (by omega) (by omega) (by omega)).mono ?_; rintro e w1 ⟨k1, hk1, rfl, rfl⟩)
    | (go_at_call_of 25 x2; refine (low_c x2 _ 81 _ (by omega) (by omega) (by omega)).mono ?_; rintro e w1 ⟨k2, hk2, rfl, rfl⟩)
    | (go_at_call 14; obtain ⟨g, i, b, ok⟩ := low_geom hk0 hk1 hk2; have hg8 : g ≤ 8 := ok.ok.g2; have hi32 : i ≤ 32 := ok.ok.i2; have hi4 : 4 ≤ i := ok.ok.i1; have hb96 : b ≤ 96 := ok.ok.b2; have hb16 : 16 ≤ b := ok.ok.b1; have okk := Lib.hid (show Geom (g : Int) (i : Int) (b : Int) g i b from ⟨rfl, rfl, rfl, ok.ok⟩); obtain ⟨P, hP⟩ : ∃ P, P = spanN i b := ⟨_, rfl⟩; obtain ⟨n, hn⟩ : ∃ n, n = 2 + g * P := ⟨_, rfl⟩; have hbn : 20 ≤ n ∧ n ≤ 1000 := parts_bd ok.ok hP hn; have d20 : decide ((n : Int) < 20) = false := decide_eq_false (by omega); have d1000 : decide (1000 < (n : Int)) = false := decide_eq_false (by omega)
       have hn' := Lib.hid hn; have hP' := Lib.hid hP; clear hn hP
       refine (geoSectors_c (n : Int) _ ok (by rw [hn'.out, hP'.out])).mono ?_; rintro e w1 ⟨rfl, hd⟩; have bx := (box_on hd (boxAt_alloc w _ _ _ _)).to ok; have bl := below_box hd; clear hd)
    | (at_make; refine wpList_make_zeros rfl _ _ rfl n rfl rfl (by omega) ?_; intro q w2 hq hq1 hq2 hb2
       have s0 : PartS w q n g i b (fun _ => 0) w2 := ⟨box_on hb2 bx, hq, Nat.lt_of_lt_of_le bx.2.2.2 hq1, hq2, below_two bl hb2⟩
       obtain ⟨e0, f0⟩ := s0.cell (p := 0) (by omega) rfl
       have s1 := s0.set (E := upd (fun _ => 0) 0 1) (p := 0) (by omega) 1 (fun _ _ => rfl)
       obtain ⟨e1, f1⟩ := s1.cell (p := 1) (v := 0) (by omega) rfl
       have s2 := Lib.hid (s1.set (E := cnt1 P 0) (p := 1) (by omega) 1 (fun s _ => cnt1_two P s))
       clear s0 s1 hq hb2))
  clear e0 f0 e1 f1
  go_loopw [10] (fun K wr => Parts1 w q n g i b P K wr) (fun K _ => g - (intOf K).toNat)
  case atStart => exact ⟨0, by omega, rfl, s2.out⟩
  case round =>
    obtain ⟨k, hk, rfl, hS⟩ := hrel
    have s1 := Lib.hid hS
    clear hS s2
    obtain ⟨c0, c1, c2, hl⟩ := s1.out.box
    by_cases hkg : k < g
    · obtain ⟨p, hp⟩ : ∃ p, p = 2 + k * P := ⟨_, rfl⟩
      have hpn : p < n := by
        have := Nat.mul_le_mul_right P (show k + 1 ≤ g from hkg)
        rw [Nat.add_mul] at this
        have := hn'.out
        have := hP'.out
        unfold spanN at this
        omega
      have hc : cnt1 P k p = 0 := by rw [hp]; exact cnt1_new (by rw [hP'.out]; unfold spanN; omega)
      have hnx : ∀ s, s < n → cnt1 P (k + 1) s = upd (cnt1 P k) p 1 s := fun s hs => by rw [hp]; exact cnt1_step hkg (by rw [← hn'.out]; exact hs)
      have hp2 : 2 ≤ p := by omega
      have dk : decide ((k : Int) < (g : Int)) = true := decide_eq_true (by omega)
      have d2 : decide ((p : Int) < 2) = false := decide_eq_false (by omega)
      have dn : decide ((n : Int) ≤ (p : Int)) = false := decide_eq_false (by omega)
      have hp' := Lib.hid hp
      have hc' := Lib.hid hc
      have hnx' := Lib.hid hnx
      clear hp hc hnx
      go_wp2_with (go_at_call 20; refine (geoGroup_c k _ (p : Int) _ okk.out rfl hkg (by rw [hp'.out, hP'.out])).mono ?_; rintro e w3 ⟨rfl, hd⟩; have s3 := Lib.hid (s1.out.on hd); obtain ⟨l0, l1, l2, ll⟩ := s3.out.box; obtain ⟨m0, m1⟩ := s3.out.cell hpn hc'.out)
      refine ⟨⟨k + 1, by omega, by go_num, s3.out.set hpn 1 hnx'.out⟩, by simp [intOf]; omega⟩
    · obtain rfl : k = g := by omega
      have dk : decide ((k : Int) < (k : Int)) = false := decide_eq_false (by omega)
      obtain ⟨h, hh⟩ : ∃ h, h = i / 4 := ⟨_, rfl⟩
      have hih : i = 4 * h := by have := okk.out.ok.i4; omega
      have hPh : P = 1 + h + b := by rw [hP'.out, hh]; rfl
      obtain ⟨N, hN⟩ : ∃ N, N = k * i := ⟨_, rfl⟩
      have hNb : N ≤ 256 := by rw [hN]; exact Nat.mul_le_mul hg8 hi32
      have t1 := Lib.hid (s1.out.congr (E := cnt2 P h i 0) (fun s hs => (cnt12 (by rw [← hn'.out]; exact hs)).symm))
      have hN' := Lib.hid hN
      have hih' := Lib.hid hih
      have hPh' := Lib.hid hPh
      have hhb : h ≤ 8 := by omega
      clear hh hN hih hPh
      go_wp2_with fail
      clear c0 c1 c2 hl s1
      go_loopw [12] (fun K wr => Parts2 w q n k i b P h N K wr) (fun K _ => N + 1 - (intOf K).toNat)
      case atStart => exact ⟨0, by omega, rfl, t1.out⟩
      case round =>
        obtain ⟨m, hm, rfl, hS⟩ := hrel
        have s1 := Lib.hid hS
        clear hS t1
        obtain ⟨c0, c1, c2, hl⟩ := s1.out.box
        by_cases hmN : m < N
        · obtain ⟨u, j, hu, hj, hmj⟩ : ∃ u j, u < k ∧ j < i ∧ m = u * i + j := by
            refine ⟨m / i, m % i, Nat.div_lt_of_lt_mul (by rw [Nat.mul_comm, ← hN'.out]; exact hmN), Nat.mod_lt _ (by omega), ?_⟩
            have := Nat.div_add_mod m i
            rw [Nat.mul_comm] at this; omega
          obtain ⟨p, hp⟩ : ∃ p, p = 3 + u * P + j / 4 := ⟨_, rfl⟩
          have hpn : p < n := by
            have h1 := Nat.mul_le_mul_right P (show u + 1 ≤ k from hu)
            rw [Nat.add_mul] at h1
            have h2 := hn'.out
            have h3 := hPh'.out
            have h4 := hih'.out
            omega
          obtain ⟨f, hf⟩ : ∃ f, f = j % 4 := ⟨_, rfl⟩
          have hmI : (u : Int) * (i : Int) + (j : Int) = (m : Int) := by rw [hmj]; simp
          have hub : (u : Int) * (i : Int) ≤ 256 ∧ 0 ≤ (u : Int) * (i : Int) := mul_bd (show u ≤ 8 by omega) hi32
          have hne : (m : Int) + 1 - 1 = (m : Int) := by omega
          have dm : decide (((m + 1 : Nat) : Int) ≤ (N : Int)) = true := decide_eq_true (by omega)
          have d2 : decide ((p : Int) < 2) = false := decide_eq_false (by omega)
          have dn : decide ((n : Int) ≤ (p : Int)) = false := decide_eq_false (by omega)
          have df : decide ((f : Int) < 0) = false := decide_eq_false (by omega)
          have df3 : decide (3 < (f : Int)) = false := decide_eq_false (by omega)
          have du : decide ((u : Int) < 0) = false := decide_eq_false (by omega)
          have dj : decide ((j : Int) < 0) = false := decide_eq_false (by omega)
          have hp' := Lib.hid hp
          have hf' := Lib.hid hf
          have hmj' := Lib.hid hmj
          clear hp hf hmj
          by_cases hf0 : j % 4 = 0
          · have hc := Lib.hid (show cnt2 P h i m p = 0 by rw [hmj'.out, hp'.out]; exact cnt2_new hih'.out (by have := hPh'.out; omega) hj hf0)
            have hnx := Lib.hid (show ∀ s, s < n → cnt2 P h i (m + 1) s = upd (cnt2 P h i m) p 1 s from fun s hs => by rw [hmj'.out, hp'.out]; exact cnt2_step hih'.out (by have := hPh'.out; omega) hj hf0 (by rw [← hn'.out]; exact hs))
            go_wp2_with (first
              | (go_at_call 16; refine (geoInodes_c (N : Int) _ okk.out (by rw [hN'.out])).mono ?_; rintro e w3 ⟨rfl, hd⟩; have s2 := Lib.hid (s1.out.on hd); clear s1 c0 c1 c2 hl; have s1 := s2; clear s2; obtain ⟨c0, c1, c2, hl⟩ := s1.out.box; clear hd)
              | (go_at_call 6; refine (geoInode_c u j _ (p : Int) 0 _ okk.out hu hj (by rw [hmj'.out]; omega) (by rw [hp'.out, hP'.out]; rfl) (by omega)).mono ?_; rintro e w3 ⟨rfl, hd⟩; unfold two; have s2 := Lib.hid (s1.out.on hd); clear s1 c0 c1 c2 hl; have s1 := s2; clear s2; obtain ⟨c0, c1, c2, hl⟩ := s1.out.box; clear hd)
              | (go_at_call 8; refine (geoOfInode_c u j _ (u : Int) (j : Int) _ okk.out hu hj (by rw [hmj'.out]; omega) rfl rfl).mono ?_; rintro e w3 ⟨rfl, hd⟩; unfold two; have s2 := Lib.hid (s1.out.on hd); clear s1 c0 c1 c2 hl; have s1 := s2; clear s2; obtain ⟨c0, c1, c2, hl⟩ := s1.out.box; clear hd; obtain ⟨m0, m1⟩ := s1.out.cell hpn hc.out))
            refine ⟨⟨m + 1, by omega, by go_num, s1.out.set hpn 1 hnx.out⟩, by simp [intOf]; omega⟩
          · have hfn : ¬ f = 0 := by rw [hf'.out]; exact hf0
            have d0 : decide ((f : Int) = 0) = false := decide_eq_false (by omega)
            have d0n : decide (f = 0) = false := decide_eq_false hfn
            have d0b : ((f : Int) == 0) = false := by simp [hfn]
            have dnn : decide (n ≤ p) = false := decide_eq_false (by omega)
            go_wp2_with (first
              | (go_at_call 16; refine (geoInodes_c (N : Int) _ okk.out (by rw [hN'.out])).mono ?_; rintro e w3 ⟨rfl, hd⟩; have s2 := Lib.hid (s1.out.on hd); clear s1 c0 c1 c2 hl; have s1 := s2; clear s2; obtain ⟨c0, c1, c2, hl⟩ := s1.out.box; clear hd)
              | (go_at_call 6; refine (geoInode_c u j _ (p : Int) (f : Int) _ okk.out hu hj (by rw [hmj'.out]; omega) (by rw [hp'.out, hP'.out]; rfl) (by rw [hf'.out])).mono ?_; rintro e w3 ⟨rfl, hd⟩; unfold two; have s2 := Lib.hid (s1.out.on hd); clear s1 c0 c1 c2 hl; have s1 := s2; clear s2; obtain ⟨c0, c1, c2, hl⟩ := s1.out.box; clear hd)
              | (go_at_call 8; refine (geoOfInode_c u j _ (u : Int) (j : Int) _ okk.out hu hj (by rw [hmj'.out]; omega) rfl rfl).mono ?_; rintro e w3 ⟨rfl, hd⟩; unfold two; have s2 := Lib.hid (s1.out.on hd); clear s1 c0 c1 c2 hl; have s1 := s2; clear s2; obtain ⟨c0, c1, c2, hl⟩ := s1.out.box; clear hd))
            refine ⟨⟨m + 1, by omega, by go_num, s1.out.congr (fun s hs => by rw [hmj'.out]; exact cnt2_same hih'.out hj hf0 (by rw [← hn'.out]; exact hs))⟩, by simp [intOf]; omega⟩
        · obtain rfl : m = N := by omega
          have dm : decide (((m + 1 : Nat) : Int) ≤ (m : Int)) = false := decide_eq_false (by omega)
          have t1 := Lib.hid (s1.out.congr (E := cnt3 P h 0) (fun s hs => by rw [hN'.out]; exact (cnt23 hih'.out (by rw [← hn'.out]; exact hs)).symm))
          go_wp2_with (go_at_call 16; refine (geoInodes_c (m : Int) _ okk.out (by rw [hN'.out])).mono ?_; rintro e w3 ⟨rfl, hd⟩; have t2 := Lib.hid (t1.out.on hd); clear t1 s1 hd c0 c1 c2 hl)
          clear dm
          have hNm := Lib.hid hN'.out
          have hPp : 0 < P := by have := hPh'.out; omega
          have hbP : b ≤ P := by have := hPh'.out; omega
          go_loopw [17, 18] (fun M K wr => Parts3 w q n k i b P h M K wr) (fun _ K _ => n - (intOf K).toNat)
          case atStart => exact ⟨0, by omega, rfl, rfl, t2.out⟩
          case round =>
            obtain ⟨t, ht, rfl, rfl, hS⟩ := hrel
            have s1 := Lib.hid hS
            clear hS t2
            obtain ⟨c0, c1, c2, hl⟩ := s1.out.box
            have hcb : blocksTo P h b t ≤ 1000 := Nat.le_trans (blocksTo_le hbP) (by omega)
            by_cases htn : t < n
            · have hnext := blocksTo_next hPh'.out (by omega) (show t < 2 + k * P by rw [← hn'.out]; exact htn)
              have dt : decide ((t : Int) < (n : Int)) = true := decide_eq_true (by omega)
              by_cases hb : t < 2 ∨ secR P t ≤ h
              · rw [if_pos hb] at hnext
                obtain ⟨c, hc⟩ : ∃ c, c = blocksTo P h b t := ⟨_, rfl⟩
                rw [← hc] at hnext hcb
                rw [← hc]
                have hnext' := Lib.hid hnext
                have hout := Lib.hid (block_out hPh'.out hb (show t < 2 + k * P by rw [← hn'.out]; exact htn))
                have hsm := Lib.hid (show ∀ s, s < n → cnt3 P h (t + 1) s = cnt3 P h t s from fun s _ => cnt3_same hb)
                clear hnext hc hb
                go_wp2_with (go_at_call 10; refine (geoOfBlock_none (t : Int) _ okk.out (by rw [← hP'.out, hih'.out, Nat.mul_div_cancel_left _ (by omega)]; exact hout.out)).mono ?_; rintro e w3 ⟨rfl, hd⟩; unfold two; have s2 := Lib.hid (s1.out.on hd); clear hd)
                refine ⟨⟨t + 1, by omega, by go_num, by rw [hnext'.out]; rfl, s2.out.congr hsm.out⟩, by simp [intOf]; omega⟩
              · rw [if_neg hb] at hnext
                obtain ⟨c, hc⟩ : ∃ c, c = blocksTo P h b t := ⟨_, rfl⟩
                rw [← hc] at hnext hcb
                rw [← hc]
                obtain ⟨u, j, hu, hj, htu⟩ := block_in hPh'.out (by omega) (by omega) (show t < 2 + k * P by rw [← hn'.out]; exact htn)
                have hx := Lib.hid (show cnt3 P h t t = 0 from cnt3_new (by omega) (by omega))
                have hnx := Lib.hid (show ∀ s, s < n → cnt3 P h (t + 1) s = upd (cnt3 P h t) t 1 s from fun s _ => cnt3_step (by omega) (by omega))
                obtain ⟨f, hf⟩ : ∃ f, f = firstN i b u := ⟨_, rfl⟩
                have hi4' : i / 4 = h := by rw [hih'.out, Nat.mul_div_cancel_left _ (by omega)]
                have hfj : (f : Int) + (j : Int) = (t : Int) := by rw [hf]; unfold firstN; rw [← hP'.out, hi4']; omega
                have hin := Lib.hid (show (t : Int) = ((3 + i / 4 + u * spanN i b + j : Nat) : Int) by rw [← hP'.out, hi4']; omega)
                have hf' := Lib.hid hf
                have hnext' := Lib.hid hnext
                have hfb : f ≤ 1000 := by omega
                clear hnext hc hb htu hf hi4'
                go_wp2_with (first
                  | (go_at_call 10; refine (geoOfBlock_c u j (t : Int) (u : Int) (j : Int) _ okk.out hu hj hin.out rfl rfl).mono ?_; rintro e w3 ⟨rfl, hd⟩; unfold two; have s2 := Lib.hid (s1.out.on hd); clear hd c0 c1 c2 hl; obtain ⟨m0, m1⟩ := s2.out.cell htn hx.out; have s3 := Lib.hid (s2.out.set htn 1 hnx.out); obtain ⟨c0, c1, c2, hl⟩ := s3.out.box)
                  | (go_at_call 22; refine (geoFirst_c u _ (f : Int) _ okk.out rfl hu (by rw [hf'.out])).mono ?_; rintro e w4 ⟨rfl, hd⟩; have s4 := Lib.hid (s3.out.on hd); clear hd))
                refine ⟨⟨t + 1, by omega, by go_num, by rw [hnext'.out]; go_num, s4.out⟩, by simp [intOf]; omega⟩
            · obtain rfl : t = n := by omega
              have hend : blocksTo P h b t = k * b := by rw [hn'.out]; exact blocksTo_end hPp
              obtain ⟨U, hU⟩ : ∃ U, U = k * b := ⟨_, rfl⟩
              rw [hend, ← hU]
              have hU' := Lib.hid hU
              have dt : decide ((t : Int) < (t : Int)) = false := decide_eq_false (by omega)
              have t4 := Lib.hid (s1.out.congr (E := fun _ => 1) (fun s hs => (cnt3_end hs).symm))
              clear hU hend hcb
              go_wp2_with fail
              clear c0 c1 c2 hl s1
              go_loopw [21] (fun K wr => Parts4 w q t k i b K wr) (fun K _ => t - (intOf K).toNat)
              case atStart => exact ⟨0, by omega, rfl, t4.out⟩
              case round =>
                obtain ⟨s, hs, rfl, hS⟩ := hrel
                have s1 := Lib.hid hS
                clear hS t4
                obtain ⟨c0, c1, c2, hl⟩ := s1.out.box
                by_cases hst : s < t
                · have ds : decide ((s : Int) < (t : Int)) = true := decide_eq_true (by omega)
                  obtain ⟨m0, m1⟩ := s1.out.cell hst rfl
                  go_wp2_with fail
                  exact ⟨⟨s + 1, by omega, by go_num, s1.out⟩, by simp [intOf]; omega⟩
                · have ds : decide ((s : Int) < (t : Int)) = false := decide_eq_false (by omega)
                  go_wp2_with (first
                    | (go_at_call 18; refine (geoBlocks_c (U : Int) _ okk.out (by rw [hU'.out])).mono ?_; rintro e w3 ⟨rfl, hd⟩; have s2 := Lib.hid (below_two s1.out.bl hd); clear hd)
                    | (go_at_call 24; refine (awake_any _).mono ?_; rintro e w4 ⟨rfl, hd⟩; have s3 := Lib.hid (below_two s2.out hd); clear hd))
                  go_ret
                  exact ⟨ret_bl (by simp), s3.out⟩
end Go.Proofs.Ytlhcfjkheifnpaa
