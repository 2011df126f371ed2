/-
  A sector, by value, and in a row of one's own.
-/
import Derived.Test.YtcmomnfefaolaaaRla
import Derived.Test.YtcmomnfefaolaaaQt
import Derived.Test.YtcmomnfefaolaaaCb
import Derived.Test.YtcmomnfefaolaaaLr
namespace Go.Proofs.Ytcmomnfefaolaaa
open Go.RowKit BigFrame
set_option maxRecDepth 100000

theorem Try.info128 : (Try.prog.info? 48).map (fun i => (i.zero, i.size)) = some (some (.agg (bv (zs 128)).toArray), 128) := by kernel_rfl
theorem Try.size128 : (Try.prog.info? 48).map (·.size) = some 128 := by kernel_rfl
theorem ldK_of (v : Value) : Instr.loadAt 48 v = ldA 48 v := rfl
theorem stK_of (p v : Value) : Instr.storeAt 48 p v = stA 48 p v := rfl
/-- a sector as a value -/
def kv (l : List Nat) : Value := .agg (bv l).toArray
theorem RowT.vw {w : World} {t : TypeId} {g : Nat} {l : List Nat} (h : RowT w t g l) : Vw w t g (bv l) := h
theorem run_ldK {w : World} {g : Nat} {l : List Nat} (h : RowT w 48 g l) (hl : l.length = 128) : (ldA 48 (.pointer (some ⟨g, 0, none⟩))).run Try.prog w = .ok (kv l) w :=
  run_ldW 128 _ h.vw.whole (by rw [bv_length, hl]) Try.underlying48 rfl Try.size128
theorem run_stK {w : World} {g : Nat} {l m : List Nat} (h : RowT w 48 g l) (hl : l.length = 128) (hm : m.length = 128) : (stA 48 (.pointer (some ⟨g, 0, none⟩)) (kv m)).run Try.prog w = .ok () (w.setCells g 0 (bv m)) :=
  run_stW 128 (by rw [bv_length, hm]) (all_oneCell_toArray (bv_one m)) (h.vw.there (by rw [bv_length, hl]; omega)) Try.size128
theorem RowT.over {w : World} {t : TypeId} {g : Nat} {l m : List Nat} (h : RowT w t g l) (hm : m.length = l.length) : RowT (w.setCells g 0 (bv m)) t g m := Vw.over h.vw (by rw [bv_length, bv_length, hm])
theorem blk_ret {fn : Func} {p : Tmp} (h : fn.results = #[.cell p 48]) {tmps : Array Value} {w : World} {a : Nat} {l : List Nat} (hp : tmps.getD p undef = .pointer (some ⟨a, 0, none⟩)) (hV : RowT w 48 a l) (hl : l.length = 128) :
    (results fn tmps).run Try.prog w = .ok (kv l) w := by
  have hp' : tmps[p]?.getD undef = .pointer (some ⟨a, 0, none⟩) := by simpa using hp
  simp [results, h, hp', asAddr, run_loadVar_row w a _ 48 _ _ _ hV Try.underlying48 rfl (by rw [Try.size128]; simp [bv_length, hl]), kv]
attribute [local go_sem ↓] ldK_of stK_of
set_option maxHeartbeats 1000000 in
theorem whole_c (v : Value) (l : List Nat) (w : World) (hs : SlB w v l) : Calls Try.prog 27 #[v] w (Tells (kv (sec l)) w) := by
  obtain ⟨a, cap, rfl, hc, hb, hn⟩ := hs
  obtain ⟨n, hl⟩ : ∃ n, l.length = n := ⟨_, rfl⟩
  rw [hl] at hc ⊢
  have hX := Lib.hid hb
  have hl' := Lib.hid hl
  clear hl hb hn hc
  have tk : True := trivial
  go_enter Try.func27, Try.ntmps27
  go_wp2_with (first
    | (clear tk; refine wpList_alloc_zeros Try.info128 rfl rfl ?_; intro g1 w1 hr1 hg1 hb1; have R1 := hr1; have G1 := Lib.hid hg1; have B1 := Lib.hid hb1; have X1 := Lib.hid (hX.out.on hb1 (Nat.le_refl _)); clear hr1 hg1 hb1)
    | (refine wpList_alloc_zeros Try.info128 rfl rfl ?_; intro g2 w2 hr2 hg2 hb2; have R1b := Lib.hid (R1.out.on hb2 R1.out.lt); have R2 := hr2; have G2 := Lib.hid (Nat.lt_of_lt_of_le R1.out.lt hg2); have B2 := Lib.hid (B1.out.trans (hb2.mono B1.out.size)); have X2 := Lib.hid (X1.out.on hb2 (Nat.le_refl _)); clear hr2 hg2 hb2)
    | (refine wpList_copy_bytesT 48 rfl (.tmp 4) (.tmp 5) rfl g2 0 128 128 a n cap (zs 128) l rfl rfl hl'.out R2.out X2.out (by rw [zs_length]; omega) g2 w2 (Below.refl _ _) (Nat.le_refl _) ?_; intro w3 hr3 hb3; have R3 := hr3; have R1c := Lib.hid (R1b.out.on hb3 G2.out); have hld := run_ldK R3.out (sec_length l); have hst := run_stK (m := splice (zs 128) 0 (l.take 128)) R1c.out (zs_length 128) (sec_length l); have R4 := Lib.hid (R1c.out.over (m := sec l) (by rw [sec_length, zs_length])); have B3 := Lib.hid (B2.out.trans (hb3.mono (by have := G1.out; have := G2.out; omega))); unfold kv at hld hst; clear hb3))
  exact bodyPost_ret (blk_ret rfl rfl R4.out (sec_length l)) rfl ⟨rfl, below_setCells B3.out G1.out 0 _⟩
/-- a row of one's own that is a sector -/
def GivesK (l : List Nat) (w : World) (e : Ending) (w' : World) : Prop := ∃ g, e = .returned (.slice (some ⟨g, 0, none⟩) 128 128) ∧ w.heap.size ≤ g ∧ Row w' g l ∧ Below w.heap.size w w'
set_option maxHeartbeats 1000000 in
theorem sector_c (v : Value) (l : List Nat) (w : World) (hs : SlB w v l) : Calls Try.prog 32 #[v] w (GivesK (sec l) w) := by
  obtain ⟨a, cap, rfl, hc, hb, hn⟩ := hs
  obtain ⟨n, hl⟩ : ∃ n, l.length = n := ⟨_, rfl⟩
  rw [hl] at hc ⊢
  have hX := Lib.hid hb
  have hl' := Lib.hid hl
  clear hl hb hn hc
  go_enter Try.func32, Try.ntmps32
  go_wp2_with (first
    | (refine wpList_make_bytes rfl _ _ rfl 128 rfl rfl (by omega) ?_; intro g1 w1 hr1 hg1 hb1; have R1 := hr1; have G1 := Lib.hid hg1; have B1 := Lib.hid hb1; have X1 := Lib.hid (hX.out.on hb1 (Nat.le_refl _)); clear hr1 hg1 hb1)
    | (refine wpList_copy_bytes rfl (.tmp 5) (.tmp 6) rfl g1 0 128 128 a n cap (zs 128) l rfl rfl hl'.out R1.out X1.out (by rw [zs_length]; omega) w.heap.size w B1.out G1.out ?_; intro w3 hr3 hb3; have R3 := hr3; have B3 := Lib.hid hb3; clear hb3))
  go_ret
  exact ⟨g1, rfl, G1.out, R3.out, B3.out⟩
end Go.Proofs.Ytcmomnfefaolaaa
