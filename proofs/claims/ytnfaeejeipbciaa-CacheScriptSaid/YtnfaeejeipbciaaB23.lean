/-
  How a law is closed: a walk that answers true, and leaves all that was there as it was, gives the given statement; bytes that come in.
  Acts of both caches: that come in, and whatever one is.
  What every program answers that is one.
  What is written over integers that were answered, and beyond.
  What is written over integers that have room behind them, and beyond.
  Both caches: as they begin; what each tells of itself.
-/
import Derived.Test.YtnfaeejeipbciaaB1
import Derived.WalkKit
import Derived.ProofKit
import Derived.OpenShut
import Derived.Deep.DeepHandedRow
import Derived.LaidMore
import Derived.Stop.LaidErr
import Derived.SizedLaws
import Derived.Test.YtnfaeejeipbciaaB22
import Derived.Deep.Grids
import Derived.Deep.Fields
import Derived.Test.YtnfaeejeipbciaaB19
import Derived.Test.YtnfaeejeipbciaaB3
import Derived.Test.YtnfaeejeipbciaaB9
import Derived.Test.YtnfaeejeipbciaaB20

section
set_option linter.unusedVariables false
set_option linter.unusedSimpArgs false
namespace Go.Proofs.Ytnfaeejeipbciaa
open Go.ChangeShapes Go.WideShapes Go.ChangeAt Go.RowKit

section
variable {H : Type} {enc : TypeId × Value → H} {P : Program}

theorem trodAll_stays (hl : laidOutB P = true) {W W' : World} (hb : Below W.heap.size W W') {sp : Nat → Bool} :
    ∀ {ts : List TypeId} {vs : List Value} {ds : List (DataW H)} {p : List MemPlace}, (ts.all fun t => P.readableRec t && decide (t < P.types.size)) = true →
      DataW.TrodAll enc P W 0 (fun _ => true) true ts vs ds p → (∀ x ∈ p, x.block < W.heap.size) → (∀ x ∈ p, sp x.block = true) → DataW.TrodAll enc P W' 0 sp true ts vs ds p
  | [], _, _, _, _, h, _, _ => by
    obtain ⟨rfl, rfl, rfl⟩ := trodAll_nil h
    exact rfl
  | t :: ts, _, _, _, ht, h, hlt, hs => by
    obtain ⟨v, vs', d, ds', p, q, rfl, rfl, rfl, h1, h2⟩ := trodAll_cons h
    simp only [List.all_cons, Bool.and_eq_true, decide_eq_true_eq] at ht
    exact ⟨p, q, WideElems.Trod_stays hl ht.1.1 ht.1.2 h1 (fun x hx => hb.same (hlt x (List.mem_append_left _ hx))) (fun x hx => hs x (List.mem_append_left _ hx)),
      trodAll_stays hl hb ht.2 h2 (fun x hx => hlt x (List.mem_append_right _ hx)) (fun x hx => hs x (List.mem_append_right _ hx)), rfl⟩

theorem trodAll_length {W : World} {b : Nat} {sp : Nat → Bool} {hd : Bool} : ∀ {ts : List TypeId} {vs : List Value} {ds : List (DataW H)} {p : List MemPlace}, DataW.TrodAll enc P W b sp hd ts vs ds p → ds.length = ts.length
  | [], _, _, _, h => by
    obtain ⟨rfl, rfl, rfl⟩ := trodAll_nil h
    rfl
  | _ :: _, _, _, _, h => by
    obtain ⟨v, vs', d, ds', p, q, rfl, rfl, rfl, _, h2⟩ := trodAll_cons h
    simp [trodAll_length h2]

/-- A LAW's POST out of 'true, and below the old heap nothing has turned'. -/
theorem law_post (hl : laidOutB P = true) {f : Func} {s : ChangeSpec} {tb : TypeId} (hread : (f.params.toList.all fun t => P.readableRec t && decide (t < P.types.size)) = true)
    (hr : f.resultTypes = #[tb]) (htb : P.underlying tb = some .bool) (hv : s.vars = [])
    (hfn : ∀ ds : List (DataW H), ds.length = f.params.toList.length → s.fn H ds = { results := [.lit (.bool true)], args := ds })
    {W W' : World} {args : Array Value} {ds gs : List (DataW H)} {before : List MemPlace}
    (hW : DataW.Whole enc P f.params.toList s.vars false W args.toList ds gs before) (hb : Below W.heap.size W W') :
    s.post enc P f false true false false W args (.bool true) W' := by
  have hW' := hW
  obtain ⟨p, q, hA, hV, rfl, _, _⟩ := hW
  rw [hv] at hV
  obtain ⟨rfl, rfl⟩ := trodVars_none hV
  have hlen := trodAll_length hA
  have hlt : ∀ x ∈ p, x.block < W.heap.size := fun x hx => hW'.lt x (List.mem_append_left _ hx)
  have e := hfn (ds ++ []) (by simpa using hlen)
  refine ⟨ds, [], p ++ [], [], p, [], hW', ?_, ?_, ?_, ?_, fun h => by cases h⟩
  · rw [e, hr]
    exact trodAll_mk1 (shut_bool htb _)
  · rw [e]
    show DataW.TrodAll enc P W' 0 _ true f.params.toList args.toList (ds ++ []) p
    rw [List.append_nil]
    exact trodAll_stays hl hb hread hA hlt (fun x hx => by simpa using hlt x hx)
  · rw [e, hv]
    exact rfl
  · exact hb.frame _

end

theorem own : ownKnob Try.prog.godebug = none := by kernel_rfl
theorem laidOut : laidOutB Try.prog = true := by kernel_rfl

/-- a slice of bytes that came in -/
def BSlice (w : World) (v : Value) (l : List Nat) : Prop :=
  ∃ a cap, v = .slice a l.length cap ∧ Octs l ∧ l.length ≤ cap ∧ BAt w a l ∧ (a = none → cap = 0)

theorem open_bytes {H : Type} {enc : TypeId × Value → H} {P : Program} {W : World} {t e : TypeId} {base : Nat} {v : Value} {d : DataW H} {ps : List MemPlace} (ht : P.underlying t = some (.slice e)) (he : P.underlying e = some (.int .u8)) (hc : P.cellsOf e = 1)
    (hval : Value.okWide P W .any base t v) (h : DataW.Trod enc P W 0 (fun _ => true) true t v d ps) : ∃ l, BSlice W v l := by
  obtain ⟨a0, len, cap, rfl⟩ := okWide_slice ht hval
  obtain ⟨fuel, hf⟩ := h
  rcases open_ints ht he hc hf with ⟨hcs, _⟩ | ⟨a, len', cap', zs, hcs, _, hl, hm, hz, hx, hcell, hwz⟩
  · simp [Value.cells] at hcs
    obtain ⟨rfl, rfl, rfl⟩ := hcs
    exact ⟨[], none, 0, rfl, .nil, by simp, .inl rfl, fun _ => rfl⟩
  · simp [Value.cells] at hcs
    obtain ⟨rfl, rfl, rfl⟩ := hcs
    simp only [if_true] at hz
    have hlen : ((zs.take len).map Int.toNat).length = len := by rw [List.length_map, List.length_take]; omega
    have hok : ∀ n ∈ zs.take len, 0 ≤ n ∧ n < 256 := by
      intro n hn
      have h1 := hwz n (List.mem_of_mem_take hn)
      simp only [Lit.wf, Bool.and_eq_true, decide_eq_true_eq] at h1
      have h2 : (0 : Int) ≤ n := h1.1
      have h3 : n ≤ 255 := h1.2
      omega
    refine ⟨(zs.take len).map Int.toNat, some a, cap, by rw [hlen], octs_mem ?_, by rw [hlen]; omega, ?_, fun h => by cases h⟩
    · intro x hx
      obtain ⟨n, hn, rfl⟩ := List.mem_map.1 hx
      have := hok n hn
      omega
    · by_cases h0 : len = 0
      · exact .inl (by rw [hlen, h0])
      · obtain ⟨b, off, rfl, hat⟩ := ints_at hcell (by omega)
        refine .inr ⟨b, off, rfl, fun k hk => ?_⟩
        rw [hlen] at hk
        rw [hat k (by omega)]
        have hk2 : k < (zs.take len).length := by rw [List.length_take]; omega
        have e1 : bz ((zs.take len).map Int.toNat) k = ((zs.take len)[k]).toNat := by
          rw [bz_get (by rw [hlen]; exact hk), List.getElem_map]
        have e2 : zs.getD k 0 = (zs.take len)[k] := by
          rw [List.getElem_take]
          simp [List.getD, List.getElem?_eq_getElem (show k < zs.length by omega)]
        rw [e1, e2]
        have := hok _ (List.getElem_mem hk2)
        congr 2
        omega
theorem open_u8 {n : Int} (h : (Lit.int .u8 n).wf = true) : ∃ k : Nat, n = (k : Int) ∧ k < 256 := by
  simp only [Lit.wf, Bool.and_eq_true, decide_eq_true_eq] at h
  have h2 : (0 : Int) ≤ n := h.1
  have h3 : n ≤ 255 := h.2
  exact ⟨n.toNat, by omega, by omega⟩
end Go.Proofs.Ytnfaeejeipbciaa
end

section
set_option linter.unusedVariables false
set_option linter.unusedSimpArgs false
namespace Go.Proofs.Ytnfaeejeipbciaa
open Go.ChangeShapes Go.WideShapes Go.ChangeAt Go.RowKit

/-- an act lies there -/
structure ActAt (W : World) (b o : Nat) (k x y : Int) (sh : Bool) : Prop where
  c0 : W.cell? ⟨b, o, none⟩ = some (.int .i64 k)
  c1 : W.cell? ⟨b, o + 1, none⟩ = some (.int .i64 x)
  c2 : W.cell? ⟨b, o + 2, none⟩ = some (.int .i64 y)
  c3 : W.cell? ⟨b, o + 3, none⟩ = some (.bool sh)
  i : I64 x
/-- so many acts -/
def ActsAt (W : World) (a : Option Addr) (n : Nat) : Prop :=
  n = 0 ∨ ∃ b off, a = some ⟨b, off, none⟩ ∧ ∀ i, i < n → ∃ k x y sh, ActAt W b (off + i * 4) k x y sh

theorem four18 {cs : List Value} (h : cs.length = 4) : ∃ v0 v1 v2 v3, cs = [v0, v1, v2, v3] := by
  match cs, h with
  | [v0, v1, v2, v3], _ => exact ⟨v0, v1, v2, v3, rfl⟩
set_option maxRecDepth 100000 in
theorem open_acts {H : Type} {enc : TypeId × Value → H} {W : World} {base : Nat} {v : Value} {d : DataW H} {ps : List MemPlace}
    (hval : Value.okWide Try.prog W .any base 22 v) (h : DataW.Trod enc Try.prog W 0 (fun _ => true) true 22 v d ps) : ∃ a n cap, v = .slice a n cap ∧ ActsAt W a n := by
  obtain ⟨a0, len, cap, rfl⟩ := okWide_slice Try.underlying22 hval
  obtain ⟨fuel, hf⟩ := h
  have hc4 : Try.prog.cellsOf 36 = 4 := by kernel_rfl
  rcases Go.Deep.open_slice Try.underlying22 hf with ⟨hcs, _⟩ | ⟨a, len', cap', m, n, D, Pl, hcs, _, hl, _, hm, _, hel⟩
  · simp [Value.cells] at hcs
    obtain ⟨rfl, rfl, rfl⟩ := hcs
    exact ⟨none, 0, 0, rfl, .inl rfl⟩
  · simp [Value.cells] at hcs
    obtain ⟨rfl, rfl, rfl⟩ := hcs
    simp only [if_true] at hm
    refine ⟨some a, len, cap, rfl, ?_⟩
    by_cases h0 : len = 0
    · exact .inl h0
    · rw [hc4] at hel
      obtain ⟨b, off, spot⟩ := a
      have hspot : spot = none := by
        obtain ⟨cs', hcell, _⟩ := hel 0 (by omega)
        obtain ⟨_, hlen, hat⟩ := World.cells?_some hcell
        obtain ⟨v0, v1, v2, v3, rfl⟩ := four18 hlen
        have := hat 0 (by omega)
        simpa [Addr.add] using World.cell?_spot this
      subst hspot
      refine .inr ⟨b, off, rfl, fun i hi => ?_⟩
      obtain ⟨cs', hcell, htr⟩ := hel i (by omega)
      obtain ⟨_, hlen, hat⟩ := World.cells?_some hcell
      obtain ⟨v0, v1, v2, v3, rfl⟩ := four18 hlen
      obtain ⟨xs, n', _, _, _, hxl, hfs⟩ := DataW.trod_struct Try.underlying36 htr
      have hx : xs.length = 4 := hxl
      have g : ∀ j, j < 4 → ∃ y, xs[j]? = some y := fun j hj => ⟨xs[j]'(by omega), List.getElem?_eq_getElem _⟩
      obtain ⟨y0, e0⟩ := g 0 (by omega)
      obtain ⟨y1, e1⟩ := g 1 (by omega)
      obtain ⟨y2, e2⟩ := g 2 (by omega)
      obtain ⟨y3, e3⟩ := g 3 (by omega)
      have t0 : DataW.trod enc Try.prog W 0 (fun _ => true) true n' 3 [v0] = some y0 := (hfs 0 _ rfl).trans e0
      have t1 : DataW.trod enc Try.prog W 0 (fun _ => true) true n' 3 [v1] = some y1 := (hfs 1 _ rfl).trans e1
      have t2 : DataW.trod enc Try.prog W 0 (fun _ => true) true n' 3 [v2] = some y2 := (hfs 2 _ rfl).trans e2
      have t3 : DataW.trod enc Try.prog W 0 (fun _ => true) true n' 4 [v3] = some y3 := (hfs 3 _ rfl).trans e3
      obtain ⟨k, h0, _, _⟩ := DataW.trod_int Try.underlying3 t0
      obtain ⟨x, h1, _, hx1⟩ := DataW.trod_int Try.underlying3 t1
      obtain ⟨y, h2, _, _⟩ := DataW.trod_int Try.underlying3 t2
      obtain ⟨sh, h3, _⟩ := DataW.trod_bool Try.underlying4 t3
      obtain rfl : v0 = .int .i64 k := by simpa using h0
      obtain rfl : v1 = .int .i64 x := by simpa using h1
      obtain rfl : v2 = .int .i64 y := by simpa using h2
      obtain rfl : v3 = .bool sh := by simpa using h3
      have hat' : ∀ j, j < 4 → W.cell? ⟨b, off + i * 4 + j, none⟩ = [Value.int .i64 k, .int .i64 x, .int .i64 y, .bool sh][j]? := fun j hj => by
        rw [← hat j hj, addr_add, addr_add]
      refine ⟨k, x, y, sh, hat' 0 (by omega), hat' 1 (by omega), hat' 2 (by omega), hat' 3 (by omega), ?_⟩
      simp only [Lit.wf, Bool.and_eq_true, decide_eq_true_eq] at hx1
      exact hx1
/-- whatever an act is -/
theorem act_any {w0 w : World} {C G m Gr W t : Nat} (h : Sd w0 C G m Gr W t w) (ht : t < 60) (k : Int) {x : Int} (y : Int) (on : Bool) (hx : I64 x) :
    Calls Try.prog 11 #[.pointer (some ⟨C, 0, none⟩), .pointer (some ⟨W, 0, none⟩), .pointer (some ⟨G, 0, none⟩), .agg #[.int .i64 k, .int .i64 x, .int .i64 y, .bool on]] w fun e w' => e = .returned (.bool true) ∧ Sd w0 C G m Gr W (t + 1) w' := by
  by_cases h0 : k = 0
  · subst h0; exact act_get h ht hx on
  by_cases h1 : k = 1
  · subst h1; exact act_put h ht y hx on
  by_cases h2 : k = 2
  · subst h2; exact act_pin h ht y hx on
  by_cases h3 : k = 3
  · subst h3; exact act_clean h ht y hx on
  by_cases h4 : k = 4
  · subst h4; exact act_drop h ht x on
  by_cases h5 : k = 5
  · subst h5
    cases on with
    | true => exact act_on h ht x y
    | false => exact act_off h ht x y
  exact act_none h x y on (by omega)
end Go.Proofs.Ytnfaeejeipbciaa
end

section
set_option linter.unusedVariables false
set_option linter.unusedSimpArgs false
namespace Go.Proofs.Ytnfaeejeipbciaa
open Go.RowKit BigFrame
set_option maxRecDepth 100000

theorem nw_one (x y : Sx) (h : x.pos = y.pos) : nw [x] y = [y] := by
  unfold nw
  rw [List.filter_cons, if_neg (by simp [h])]; rfl
theorem trim_one (x : Sx) (m : Nat) (h : 1 ≤ m) : trim m [x] = [x] := by
  unfold trim
  rw [show [x].length - m = 0 by simp; omega, dropN_zero]
theorem nw_nil (y : Sx) : nw [] y = [y] := rfl
theorem OwnZ.one {w : World} {B x : Nat} {v : Value} (h : OwnZ w B v [x]) : ∃ a cap, v = .slice a 1 cap ∧ IntsAt w a 1 (fun _ => (x : Int)) := by
  obtain ⟨a, cap, e, _, hi⟩ := h.ints
  refine ⟨a, cap, e, ?_⟩
  rcases hi with h | ⟨b, off, e2, h2⟩
  · cases h
  · exact .inr ⟨b, off, e2, fun k hk => by
      have := h2 k hk
      have hk1 : k < 1 := hk
      obtain rfl : k = 0 := by omega
      exact this⟩
set_option maxHeartbeats 4000000 in
theorem awake_any (w : World) : Calls Try.prog 7 #[] w (Woke w) := by
  obtain ⟨d0, hd0⟩ : ∃ d0, (Dk.fresh 4 fun _ => zs 128) = d0 := ⟨_, rfl⟩
  have h0 := Lib.hid (show d0.on = true ∧ d0.set = false ∧ d0.n = 4 ∧ d0.waits.length = 0 ∧ d0.log = [] by rw [← hd0]; exact ⟨rfl, rfl, rfl, rfl, rfl⟩)
  obtain ⟨l, hl0⟩ : ∃ l, fillN 3 128 = l := ⟨_, rfl⟩
  have hl := Lib.hid (show l.length = 128 by rw [← hl0]; exact fillN_length _ _)
  have e0 := Lib.hid hd0
  have el := Lib.hid hl0
  clear hd0 hl0
  go_enter Try.func7, Try.ntmps7
  go_wp2_with (go_at_call 8; refine (new_c _ 4 _ rfl (by omega) (by omega)).mono ?_; rw [e0.out]; rintro e w1 ⟨G, A1, rfl, hD1, hb1⟩; have D1 := Lib.hid hD1; have B1 := Lib.hid hb1; clear hD1 hb1)
  go_wp2_with (go_at_call 10; refine (newc_v (m := 1) (Below.refl w.heap.size w) D1.out B1.out rfl (by omega)).mono ?_; rintro e w2 ⟨C, c2, rfl, hC2, _⟩; have C2 := Lib.hid hC2; clear hC2)
  go_wp2_with (go_at_call 23; refine (fill_c 3 _ 128 _ rfl (by omega)).mono ?_; rw [el.out]; rintro e w3 ⟨v3, rfl, ho3, hb3⟩; obtain ⟨g3, cap3, rfl, hc3, hg3, hlt3⟩ := ho3.at hl.out (by omega); have C3 := Lib.hid (C2.out.read hb3); have O3 := Lib.hid ho3; have F3 := Lib.hid (C2.out.l.off hg3); clear ho3 hb3)
  go_wp2_with (go_at_call 22; refine (putv_miss C3.out (by omega) (by omega) (p := 2) rfl (by rw [h0.out.2.2.1]; omega) rfl hl.out hc3 O3.out.bat ⟨hlt3, F3.out⟩).mono ?_; rintro e w4 ⟨c4, b4, rfl, hC4, hS4⟩; rw [nw_nil, trim_one _ _ (Nat.le_refl _)] at hC4; obtain ⟨x4, hx4⟩ : ∃ x4, (⟨b4, 2, l, 0 + 1, true, false⟩ : Sx) = x4 := ⟨_, rfl⟩; have X4 := Lib.hid (show x4.pos = 2 ∧ x4.b = l ∧ x4.dirty = true ∧ x4.pin = false by rw [← hx4]; exact ⟨rfl, rfl, rfl, rfl⟩); rw [hx4] at hC4; have C4 := Lib.hid hC4; clear hC4 hS4 hx4)
  go_wp2_with (go_at_call 26; refine (getv_hit C4.out (by omega) (by omega) (x := x4) List.mem_cons_self (by rw [X4.out.1]; rfl)).mono ?_; rw [X4.out.1, X4.out.2.1, X4.out.2.2.1, X4.out.2.2.2]; rintro e w5 ⟨v5, c5, b5, rfl, hC5, ho5, hf5, hS5⟩; rw [nw_one _ _ X4.out.1, trim_one _ _ (Nat.le_refl _)] at hC5; obtain ⟨x5, hx5⟩ : ∃ x5, (⟨b5, 2, l, 0 + 1 + 1, true, false⟩ : Sx) = x5 := ⟨_, rfl⟩; have X5 := Lib.hid (show x5.pos = 2 ∧ x5.b = l ∧ x5.dirty = true ∧ x5.pin = false by rw [← hx5]; exact ⟨rfl, rfl, rfl, rfl⟩); rw [hx5] at hC5; have fr5 := Lib.hid (show fr [x5] = [] from by unfold fr; rw [List.filter_cons, if_neg (by unfold Sx.free; rw [X5.out.2.2.1]; simp)]; rfl); obtain ⟨g5, cap5, rfl, hc5, hg5, hlt5⟩ := ho5.at hl.out (by omega); have C5 := Lib.hid hC5; have O5 := Lib.hid ho5; have F5 := Lib.hid hf5; clear hC5 hS5 ho5 hf5 hx5)
  go_wp2_with (go_at_call 12; refine (heldv C5.out).mono ?_; rw [show [x5].map Sx.pos = [2] from by rw [List.map_singleton, X5.out.1]]; rintro e w6 ⟨v6, rfl, ho6, hb6⟩; have C6 := Lib.hid (C5.out.read hb6); have O6 := Lib.hid (OwnB.on O5.out hb6 (Nat.le_refl _)); have Z6 := Lib.hid ho6; have Y6 := Lib.hid (C5.out.l.offZ ho6); clear ho6 hb6)
  go_wp2_with (go_at_call 25; refine (dropv C6.out (by omega) (n := 0) (by rw [fr5.out, List.length_nil, Nat.min_zero])).mono ?_; rintro e w7 ⟨A7, c7, rfl, hC7, hS7⟩; rw [dropN_zero] at hC7; have C7 := Lib.hid hC7; have O7 := Lib.hid (OwnB.call O6.out F5.out hS7); have F7 := Lib.hid (F5.out.call hS7 (fun k hk => (OwnB.lt O6.out k hk).2)); have Z7 := Lib.hid (OwnZ.call Z6.out Y6.out hS7); have Y7 := Lib.hid (Y6.out.call hS7 (fun k hk => (OwnZ.block Z6.out k hk).2)); clear hC7 hS7)
  go_wp2_with (go_at_call 24; refine (cleanv_go C7.out (by omega) (x := x5) List.mem_cons_self X5.out.2.2.1 h0.out.1 h0.out.2.1 (by rw [h0.out.2.2.1, X5.out.1]; decide) (by rw [h0.out.2.2.2.1]; omega) (by rw [h0.out.2.2.2.2]; decide) (by rw [X5.out.1]; rfl)).mono ?_; rintro e w8 ⟨A8, c8, rfl, hC8, hS8⟩; rw [show putS (x5.withD false) [x5] = [x5.withD false] from by unfold putS; rw [List.map_singleton]; exact congrArg (fun z => [z]) (if_pos rfl), trim_one _ _ (Nat.le_refl _)] at hC8; obtain ⟨d8, hd8⟩ : ∃ d8, d0.wrote x5.pos x5.b = d8 := ⟨_, rfl⟩; have K8 := Lib.hid (show d8.log = [2] by rw [← hd8]; show d0.log ++ [x5.pos] = _; rw [h0.out.2.2.2.2, X5.out.1]; rfl); rw [hd8] at hC8; have C8 := Lib.hid hC8; have O8 := Lib.hid (OwnB.call O7.out F7.out hS8); have Z8 := Lib.hid (OwnZ.call Z7.out Y7.out hS8); clear hC8 hS8 hd8)
  go_wp2_with (go_at_call 23; refine (fill_c 3 _ 128 _ rfl (by omega)).mono ?_; rw [el.out]; rintro e w9 ⟨v9, rfl, ho9, hb9⟩; obtain ⟨g9, cap9, rfl, hc9, hg9, hlt9⟩ := ho9.at hl.out (by omega); have C9 := Lib.hid (C8.out.read hb9); have P9 := Lib.hid ho9; have O9 := Lib.hid (OwnB.on O8.out hb9 (Nat.le_refl _)); have Z9 := Lib.hid (OwnZ.on Z8.out hb9); clear ho9 hb9)
  go_wp2_with (go_at_call 27; refine (same_same _ _ _ _ 128 l l _ hl.out rfl (by omega) O9.out.bat P9.out.bat).mono ?_; rintro e w10 ⟨rfl, hb10⟩; have C10 := Lib.hid (C9.out.read hb10); have Z10 := Lib.hid (OwnZ.on Z9.out hb10); obtain ⟨a6, cap6, rfl, hi10⟩ := OwnZ.one Z10.out; have b11 := Lib.hid ((Below.refl w10.heap.size w10).alloc (Nat.le_refl _) (.cells #[.int .i64 2] 3)); have I11 := Lib.hid (hi10.on b11.out rfl); have N11 := Lib.hid (int_new w10 2 3); have C11 := Lib.hid (C10.out.read b11.out); clear hb10 hi10)
  go_wp2_with (go_at_call 14; refine (sameI_any _ _ _ _ 1 (fun _ => 2) (fun _ => 2) _ (by omega) I11.out N11.out (fun _ _ => rfl)).mono ?_; rintro e w12 ⟨rfl, hb12⟩; have C12 := Lib.hid (C11.out.read hb12); clear hb12)
  go_wp2_with (go_at_call 13; refine (dirtyv_none C12.out (fun x hx => by rw [List.mem_singleton] at hx; rw [hx]; rfl)).mono ?_; rintro e w13 ⟨a13, cap13, rfl, hb13⟩; have C13 := Lib.hid (C12.out.read hb13); clear hb13)
  go_wp2_with (go_at_call 17; refine (writes_n _ _ _ A8 d8 1 C13.out.dk (congrArg List.length K8.out)).mono ?_; rintro e w14 ⟨v14, rfl, hi14, hb14⟩; have C14 := Lib.hid (C13.out.read hb14); obtain ⟨a14, cap14, rfl, hx14, _, _, _⟩ := hi14.slice; have b15 := Lib.hid ((Below.refl w14.heap.size w14).alloc (Nat.le_refl _) (.cells #[.int .i64 2] 3)); have I15 := Lib.hid (hx14.on b15.out rfl); have N15 := Lib.hid (int_new w14 2 3); have C15 := Lib.hid (C14.out.read b15.out); clear hi14 hb14 hx14)
  go_wp2_with (go_at_call 14; refine (sameI_any _ _ _ _ 1 (logD d8) (fun _ => 2) _ (by omega) I15.out N15.out (fun k hk => (by have hk0 : k = 0 := (by omega); subst hk0; unfold logD; rw [K8.out]; rfl))).mono ?_; rintro e w16 ⟨rfl, hb16⟩; have C16 := Lib.hid (C15.out.read hb16); clear hb16)
  have tk : True := trivial
  have hlo := Lib.hid (fun w => new_low G 0 (by omega) w)
  unfold pv at hlo
  go_wp2_with (first
    | (have _t := tk; go_at_call 10; refine (new_nod 1 _).mono ?_; clear tk; rintro e w17 ⟨rfl, rfl⟩)
    | (go_at_call 10; refine (hlo.out _).mono ?_; rintro e w18 ⟨rfl, rfl⟩))
  go_ret
  exact ⟨rfl, C16.out.below⟩
end Go.Proofs.Ytnfaeejeipbciaa
end

section
set_option linter.unusedVariables false
set_option linter.unusedSimpArgs false
namespace Go.Proofs.Ytnfaeejeipbciaa
open Go.RowKit BigFrame

theorem one_newI (w : World) (x : Value) (t : TypeId) : ∀ j u, [x][j]? = some u → (w.alloc (.cells #[x] t)).cell? ((⟨w.heap.size, 0, none⟩ : Addr).add j) = some u := by
  intro j u hj
  match j, hj with
  | 0, hj =>
    simp only [List.getElem?_cons_zero, Option.some.injEq] at hj
    subst hj
    simp [Addr.add]
/-- an append that there is no room for, onto whatever lies there -/
theorem wpList_append_grow {P : Program} {w : World} {ops : Array Oper} {rest : List Oper} {o : Oper} {a : Act} {Q : Exit → Act → World → Prop} (hgd : o.guard = none) (s x : Operand) (t : TypeId)
    (ho : o.op = .call { callee := .builtin .append, args := #[s, x], argTypes := #[t, t] })
    (e : TypeId) (i : TypeInfo) (z : Value) (ht : P.underlying t = some (.slice e)) (hi : P.info? e = some i) (hz : i.zero = some z)
    (b : Addr) (sLen sCap : Nat) (olds : List Value) (hs : a.eval s = .slice (some b) sLen sCap) (hlo : olds.length = sLen * i.size) (holds : ∀ j v, olds[j]? = some v → w.cell? (b.add j) = some v)
    (ad : Addr) (n c : Nat) (news : List Value) (hx : a.eval x = .slice (some ad) n c) (hl : news.length = n * i.size) (hnews : ∀ j v, news[j]? = some v → w.cell? (ad.add j) = some v)
    (hg : sCap < sLen + n) (h63 : ((sLen + n : Nat) : Int) ≤ 9223372036854775807) (hfit : Builtin.nextslicecap (sLen + n) sCap * i.bytes ≤ 281474976710656)
    (h : ∀ v' w', (∀ B W, B ≤ w.heap.size → Below B W w → Below B W w') → wpList P ops Q rest (a.put o.dst v') w') : wpList P ops Q (o :: rest) a w := by
  refine wpList_plain hgd fun K hK => ?_
  have hrun := run_append_grow (P := P) (w := w) t o.type e i z ht hi hz b sLen sCap olds hlo holds ad n c news hl hnews hg h63 hfit
  unfold Oper.wp
  simp [execOp, ho, resolve, invoke, builtin, hs, hx, hrun, Result.andThen]
  exact hK _ _ (h _ _ fun B W hB hb => (hb.drew).alloc hB _)

def OvIRel (g n : Nat) (C : Nat → Int) (w : World) (i : Value) (wr : World) : Prop :=
  ∃ k : Nat, k ≤ n ∧ i = .int .i64 k ∧ At g n (fun p => if p < k then -999 else C p) wr ∧ Oth g w wr

set_option maxHeartbeats 1000000 in
theorem overI_any (g n : Nat) (C : Nat → Int) (w : World) (hn : n ≤ 40) (hA : At g n C w) :
    Calls Try.prog 18 #[.slice (some ⟨g, 0, none⟩) n n] w fun e w' => e = .returned (.tuple #[]) ∧ ∀ B, B ≤ g → B ≤ w.heap.size → Below B w w' := by
  obtain ⟨j0, hj, hk0, hk1, hk2⟩ := info_parts Try.infoI
  have hA' := Lib.hid hA
  clear hA
  go_enter Try.func18, Try.ntmps18
  go_wp2_with fail
  go_loopw [2] (fun i wr => OvIRel g n C w i wr) (fun i _ => n - (intOf i).toNat)
  case atStart => exact ⟨0, by omega, rfl, hA'.out.congr (fun p _ => by rw [if_neg (by omega)]), Oth.refl _ _⟩
  case round =>
    obtain ⟨k, hk, rfl, hA, hO⟩ := hrel
    by_cases hlt : k < n
    · have c1 := (hA k hlt).1
      have f1 := (hA k hlt).2
      have hA' := Lib.hid hA
      have hO' := Lib.hid hO
      clear hA hO
      go_wp2_with fail
      refine ⟨⟨k + 1, by omega, by go_num, (hA'.out.setCell hlt (-999)).congr fun p _ => ?_, hO'.out.setCell _⟩, by simp [intOf]; omega⟩
      unfold upd
      dsimp only
      repeat' split
      all_goals first | rfl | omega
    · have hkn : k = n := by omega
      subst hkn
      have hA' := Lib.hid hA
      have hO' := Lib.hid hO
      have hcap : Builtin.nextslicecap (k + 1) k * j0.bytes ≤ 281474976710656 := by
        have := nextslicecap_le (show k < k + 1 by omega)
        rw [hk2]; omega
      clear hA hO
      go_wp2_with (at_builtin; refine wpList_append_grow rfl _ _ 37 rfl 3 j0 (.int .i64 0) Try.underlying37 hj hk0 ⟨g, 0, none⟩ k k ((List.range k).map fun _ => .int .i64 (-999)) rfl ?c1 ?c2 ⟨wr.heap.size, 0, none⟩ 1 1 [.int .i64 (-999)] rfl ?c3 ?c4 ?c5 ?c6 hcap ?_)
      case c1 => simp [hk1]
      case c3 => simp [hk1]
      case c5 => omega
      case c6 => omega
      case c2 =>
        intro j v hv
        rw [List.getElem?_map] at hv
        obtain ⟨q, hq, rfl⟩ := Option.map_eq_some_iff.1 hv
        have hjk : j < k := by
          have := (List.getElem?_eq_some_iff.1 hq).1
          simpa using this
        have := (hA'.out j hjk).1
        dsimp only at this
        rw [if_pos hjk] at this
        have hlt2 : g < wr.heap.size := World.block_lt_of_cell? wr _ this
        have hadd : (⟨g, 0, none⟩ : Addr).add j = ⟨g, j, none⟩ := by unfold Addr.add; split <;> simp_all
        rw [hadd, ((Below.refl wr.heap.size wr).alloc (Nat.le_refl _) _).cell (p := ⟨g, j, none⟩) hlt2]
        exact this
      case c4 => exact one_newI _ _ _
      intro v' w2 hw2
      have hw2' := Lib.hid hw2
      clear hw2
      go_wp2_with fail
      go_end0
      refine ⟨rfl, fun B hB hBw => hw2'.out B w ?_ ?_⟩
      · have := hO'.out.size
        simp; omega
      · exact (below_oth (Below.refl _ w) hO'.out hB).alloc (by rw [hO'.out.size]; exact hBw) _
end Go.Proofs.Ytnfaeejeipbciaa
end

section
set_option linter.unusedVariables false
set_option linter.unusedSimpArgs false
namespace Go.Proofs.Ytnfaeejeipbciaa
open Go.RowKit BigFrame

theorem rl_set (D : Nat → Int) (n k : Nat) (x : Int) : (rl D n).set k (.int .i64 x) = rl (upd D k x) n := by
  apply List.ext_getElem?
  intro p
  by_cases hp : p < n
  · rw [rl_get hp, List.getElem?_set]
    by_cases e : k = p
    · subst e; rw [if_pos rfl, if_pos (by rw [rl_length]; exact hp)]; simp [upd]
    · rw [if_neg e, rl_get hp]; simp [upd, Ne.symm e]
  · rw [List.getElem?_eq_none (by rw [List.length_set, rl_length]; omega), List.getElem?_eq_none (by rw [rl_length]; omega)]
theorem OwnI.set {w : World} {base g n cap : Nat} {D : Nat → Int} (h : OwnI w base (.slice (some ⟨g, 0, none⟩) n cap) n D) (k : Nat) (x : Int) : OwnI (w.setCell ⟨g, k, none⟩ (.int .i64 x)) base (.slice (some ⟨g, 0, none⟩) n cap) n (upd D k x) := by
  rcases h.2 with ⟨e, _⟩ | ⟨g', cap', cur, e, hb, hg, hnc, hcm, hcs, ht⟩
  · cases e
  · simp only [Value.slice.injEq, Option.some.injEq, Addr.mk.injEq, and_true] at e
    obtain ⟨rfl, _, rfl⟩ := e
    have e := setCell_eq_setRow w g k _ _ _ (.int .i64 x) hg
    refine ⟨by rw [rl_length, Nat.mul_one], .inr ⟨g, cap, cur.setIfInBounds k (.int .i64 x), rfl, hb, ?_, hnc, hcm, by simpa using hcs, ?_⟩⟩
    · rw [e]
      exact setRow_heap w g _ _ _ _ hg
    · rw [← rl_set, ← ht]
      simp [List.take_set]
theorem OwnI.cellAt {w : World} {base g n cap k : Nat} {D : Nat → Int} (h : OwnI w base (.slice (some ⟨g, 0, none⟩) n cap) n D) (hk : k < n) : w.cell? ⟨g, k, none⟩ = some (.int .i64 (D k)) ∧ w.frozen? ⟨g, k, none⟩ = false := by
  refine ⟨World.ownsRow.cells h (g := g) rfl k _ (rl_get hk) |> fun h => by rwa [addr_add, Nat.zero_add] at h, ?_⟩
  rcases h.2 with ⟨e, _⟩ | ⟨g', cap', cur, e, _, hg, _⟩
  · cases e
  · cases e
    simp [World.frozen?, hg]
def OvIRelO (base g n cap : Nat) (w : World) (i : Value) (wr : World) : Prop :=
  ∃ (k : Nat) (D : Nat → Int), k ≤ n ∧ i = .int .i64 k ∧ OwnI wr base (.slice (some ⟨g, 0, none⟩) n cap) n D ∧ w.grownBy wr (some g)
set_option maxHeartbeats 400000 in
theorem overI_some (base g n cap : Nat) (D : Nat → Int) (w : World) (hl : n ≤ 100000) (hr : OwnI w base (.slice (some ⟨g, 0, none⟩) n cap) n D) (hb : base ≤ w.heap.size) :
    Calls Try.prog 18 #[.slice (some ⟨g, 0, none⟩) n cap] w (OverPost (some g) w) := by
  have hr' := Lib.hid hr
  clear hr
  go_enter Try.func18, Try.ntmps18
  go_wp2_with fail
  go_loopw [2] (fun i wr => OvIRelO base g n cap w i wr) (fun i _ => n - (intOf i).toNat)
  case atStart => exact ⟨0, D, by omega, rfl, hr'.out, World.grownBy.refl _ _⟩
  case round =>
    obtain ⟨k, E, hk, rfl, hR, hB⟩ := hrel
    by_cases hlt : k < n
    · obtain ⟨c1, c2⟩ := hR.cellAt hlt
      have hend := Lib.hid (show OvIRelO base g n cap w (.int .i64 ((k : Int) + 1)) (wr.setCell ⟨g, k, none⟩ (.int .i64 (-999))) from ⟨k + 1, _, by omega, by go_num, hR.set k (-999), grownBy_trans hB (grownBy_setCell _ _ _ _)⟩)
      clear hR hB
      go_wp2_with fail
      exact ⟨hend.out, by simp [intOf]; omega⟩
    · have hO' := Lib.hid (hR.alloc (.cells #[.int .i64 (-999)] 3))
      have hN' := Lib.hid (show IntsAt (wr.alloc (.cells #[.int .i64 (-999)] 3)) (some ⟨wr.heap.size, 0, none⟩) 1 (fun _ => -999) from .inr ⟨_, 0, rfl, fun j hj => by
        obtain rfl : j = 0 := by omega
        exact one_newI wr _ _ 0 _ rfl⟩)
      have hB' := Lib.hid (grownBy_trans hB (World.grownBy_alloc wr (.cells #[.int .i64 (-999)] 3) (some g)))
      have hz' := Lib.hid (Nat.le_trans hb hB'.out.size)
      clear hR hB
      go_wp2_with (at_builtin; refine wpList_append_ints rfl (.tmp 12) (.tmp 13) rfl base n _ E rfl hO'.out (some ⟨wr.heap.size, 0, none⟩) 1 1 (fun _ => -999) rfl hN'.out (by intro h; cases h) (by omega) hz'.out ?_)
      intro v' w' _ hg2 _
      have hend := Lib.hid (grownBy_trans hB'.out hg2)
      clear hg2
      go_wp2_with fail
      go_end0
      exact ⟨rfl, hend.out⟩
theorem overI_nil (w : World) : Calls Try.prog 18 #[.slice none 0 0] w (OverPost none w) := by
  have hN' := Lib.hid (show IntsAt (w.alloc (.cells #[.int .i64 (-999)] 3)) (some ⟨w.heap.size, 0, none⟩) 1 (fun _ => -999) from .inr ⟨_, 0, rfl, fun j hj => by
    obtain rfl : j = 0 := by omega
    exact one_newI w _ _ 0 _ rfl⟩)
  have hB' := Lib.hid (World.grownBy_alloc w (.cells #[.int .i64 (-999)] 3) none)
  have hz' := Lib.hid hB'.out.size
  go_enter Try.func18, Try.ntmps18
  go_wp2_with fail
  go_loopw [2] (fun i wr => i = .int .i64 0 ∧ wr = w) (fun _ _ => 0)
  case atStart => exact ⟨rfl, rfl⟩
  case round =>
    obtain ⟨rfl, rfl⟩ := hrel
    go_wp2_with (at_builtin; refine wpList_append_ints rfl (.tmp 12) (.tmp 13) rfl wr.heap.size 0 _ (fun _ => 0) rfl (OwnI.nil _ _ _) (some ⟨wr.heap.size, 0, none⟩) 1 1 (fun _ => -999) rfl hN'.out (by intro h; cases h) (by omega) hz'.out ?_)
    intro v' w' _ hg2 _
    have hend := Lib.hid (grownBy_trans hB'.out hg2)
    clear hg2
    go_wp2_with fail
    go_end0
    exact ⟨rfl, hend.out⟩
/-- any integers of one's own -/
theorem overI_own (base n : Nat) (v : Value) (D : Nat → Int) (w : World) (hl : n ≤ 100000) (hr : OwnI w base v n D) (hb : base ≤ w.heap.size) :
    Calls Try.prog 18 #[v] w (OverPost v.ownBlock w) := by
  rcases hr.2 with ⟨rfl, _⟩ | ⟨g, cap, cur, rfl, _⟩
  · exact overI_nil w
  · exact overI_some base g n cap D w hl hr hb
end Go.Proofs.Ytnfaeejeipbciaa
end

section
set_option linter.unusedVariables false
set_option linter.unusedSimpArgs false
namespace Go.Proofs.Ytnfaeejeipbciaa
open Go.RowKit BigFrame Go.Lib
set_option maxRecDepth 100000

def gzl (l : List Nat) (k : Nat) : Int := ((l.getD k 0 : Nat) : Int)
theorem OwnZ.ownI {w : World} {B n : Nat} {v : Value} {l : List Nat} (h : OwnZ w B v l) (hn : l.length = n) : OwnI w B v n (gzl l) := by
  subst hn
  have e : nv l = rl (gzl l) l.length := by
    apply List.ext_getElem?
    intro p
    by_cases hp : p < l.length
    · rw [rl_get hp]; simp [nv, gzl, List.getD, hp]
    · rw [List.getElem?_eq_none (by rw [nv_len]; omega), List.getElem?_eq_none (by rw [rl_length]; omega)]
  unfold OwnZ at h
  rw [e] at h
  exact h
theorem log_rf {w : World} {B G : Nat} {A : RLies} {R : List Nat} {d : Dk} (h : IsRf w B G A R d) : ∃ a cap, A.vL = .slice a d.log.length cap ∧ IntsAt w a d.log.length (logD d) := by
  have hc := fun g hg => World.ownsRow.cells h.log (g := g) hg
  rcases h.log.2 with ⟨e, e2⟩ | ⟨g, cap, cur, e, _, _, hn, _⟩
  · exact ⟨none, 0, by rw [e, e2], .inl e2⟩
  · refine ⟨_, cap, e, .inr ⟨g, 0, rfl, fun k hk => ?_⟩⟩
    have := hc g (by rw [e]; rfl) k (.int .i64 (logD d k)) (by simp [icells, logD, List.getD, hk])
    rwa [addr_add] at this
section
variable {w0 w w' w1 w2 w3 w4 : World} {A A' : Lies} {d d' : Dk} {c c' : Ck} {C G m u u' t : Nat} {H H' : List Sx} {Gr W : Nat} {Ar Ar' : RLies} {rc rc' : RC} {X X' : List Nat}
theorem duo_start (hD1 : IsDk w1 w.heap.size G A d) (hb1 : Below w.heap.size w w1) (hD2 : IsRf w2 w1.heap.size Gr Ar (A.foot G) d) (hb2 : Below w1.heap.size w1 w2)
    (hw3 : w3 = w2.alloc (.cells #[.pointer (some ⟨Gr, 0, none⟩), .int .i64 (m : Int), .slice none 0 0] 31)) (hN : CkN w4 w3.heap.size (ck0 w3 G m)) (hb4 : Below w3.heap.size w3 w4)
    (hn : d.n = 12) (harm : d.set = false) (hwt : d.waits = []) (hlg : d.log = []) (hm : 1 ≤ m ∧ m ≤ 20) : Sd w (w3.heap.size + 1) G m Gr w2.heap.size 0 w4 := by
  have hz1 := hb1.size
  have hz2 := hb2.size
  have hz3 : w3.heap.size = w2.heap.size + 1 := by rw [hw3, size_alloc]
  have hz4 := hb4.size
  have b3 : Below w2.heap.size w2 w3 := by rw [hw3]; exact (Below.refl _ _).alloc (Nat.le_refl _) _
  have hb23 : Below w2.heap.size w2 w4 := b3.trans (hb4.mono (by omega))
  have hb13 : Below w.heap.size w w3 := hb1.trans ((hb2.mono hz1).trans (b3.mono (by omega)))
  have hcv : Cv w w4 A d (ck0 w3 G m) (w3.heap.size + 1) G m 0 [] := ⟨CkL.new (Below.refl _ _) (IsDkS.on hD1 (hb2.trans (b3.mono hz2)) (Nat.le_refl _)) hb13 hN hb4, rfl, rfl, rfl, rfl, rfl⟩
  have hrf := hD2.other (R' := foots A (ck0 w3 G m) ++ [w2.heap.size]) (step_w (Step.of_below hb23 (A.foot G)) (fun _ h => h) fun k hk => by
    rcases List.mem_append.1 hk with hk | hk
    · rcases List.mem_append.1 hk with hk | hk
      · exact .inl hk
      · have := hN.mem.over k hk; exact .inr (by omega)
    · rw [List.mem_singleton] at hk; exact .inr (by omega)) fun k hk => by
    rcases List.mem_append.1 hk with hk | hk
    · exact (hcv.l.ck.lt k hk).2
    · rw [List.mem_singleton] at hk; omega
  refine ⟨A, d, ck0 w3 G m, 0, [], Ar, ⟨w2.heap.size, Gr, .slice none 0 0, m, []⟩, ⟨⟨hcv, ⟨hrf.fine, hrf.hdr, hrf.slots, hrf.room, hrf.rows, hrf.waits, hrf.keep, own_lower hrf.log hz1, hrf.apart, fun k hk => ⟨Nat.le_trans hz1 (hrf.over k hk).1, (hrf.over k hk).2⟩, hrf.under⟩, rfl, ?_, fun k hk => (by cases hk)⟩, rfl, rfl, Alk.nil, .inl (Nat.zero_le _), fun x hx => (by cases hx), hn, harm, hm⟩, Nat.le_refl _, by rw [hwt]; exact Nat.le_refl _, by rw [hlg]; exact Nat.le_refl _⟩
  refine ⟨?_, World.ownsRow_nil _ _ _ _, fun r hr => (by cases hr), List.nodup_nil, fun r hr => (by cases hr), fun k hk => ?_⟩
  · have := Vw.alloc w2 [.pointer (some ⟨Gr, 0, none⟩), .int .i64 (m : Int), .slice none 0 0] 31
    rw [show w2.alloc (.cells [.pointer (some ⟨Gr, 0, none⟩), .int .i64 (m : Int), .slice none 0 0].toArray 31) = w3 from hw3.symm] at this
    exact this.on' hb4
  · obtain rfl : k = w2.heap.size := by simpa [RC.foot, Value.ownBlock] using hk
    refine ⟨by omega, fun e => ?_⟩
    rcases List.mem_append.1 e with e | e
    · cases e
    rcases List.mem_append.1 e with e | e
    · have := (hD2.over _ e).2.2; omega
    rcases List.mem_append.1 e with e | e
    · have := (IsDkS.over hD1 _ e).2; omega
    · have := hN.mem.over _ e; omega
theorem Duo.len (q : Duo w0 A d c C G m u H Gr W Ar rc X w) : H.length ≤ 12 := by
  have h1 : (H.map Sx.pos).Nodup := by rw [q.alk.pos]; exact q.q.ca.pos
  have := nodup_below 12 h1 fun x hx => by
    obtain ⟨y, hy, rfl⟩ := List.mem_map.1 hx
    exact q.low y hy
  simpa using this
theorem held_d (q : Duo w0 A d c C G m u H Gr W Ar rc X w) {l : List Nat} {n : Nat} (hl : H.map Sx.pos = l) (hn : l.length = n) :
    Calls Try.prog 12 #[.pointer (some ⟨C, 0, none⟩)] w (GivesZ n (gzl l) w) := by
  refine (heldv q.q.cv).mono ?_
  rw [hl]
  rintro e w' ⟨v, rfl, ho, hb⟩
  exact ⟨v, rfl, ho.ownI hn, hb⟩
theorem dirty_d (q : Duo w0 A d c C G m u H Gr W Ar rc X w) {l : List Nat} {n : Nat} (hl : dirtL rc.L 12 = l) (hn : l.length = n) :
    Calls Try.prog 13 #[.pointer (some ⟨C, 0, none⟩)] w (GivesZ n (gzl l) w) := by
  refine (dirtyv q.q.cv).mono ?_
  rintro e w' ⟨S, hS, v, rfl, ho, hb⟩
  rw [q.alk.dirty hS q.low, hl] at ho
  exact ⟨v, rfl, ho.ownI hn, hb⟩
theorem rlist_d (q : Duo w0 A d c C G m u H Gr W Ar rc X w) {l : List Nat} {n : Nat} (hl : H.map Sx.pos = l) (hn : l.length = n) :
    Calls Try.prog 15 #[.pointer (some ⟨W, 0, none⟩)] w (GivesZ n (gzl l) w) := by
  have := rlist_c q.q.ca
  rw [← q.alk.pos, hl, q.at'] at this
  refine this.mono ?_
  rintro e w' ⟨v, rfl, ho, hb⟩
  exact ⟨v, rfl, ho.ownI hn, hb⟩
theorem rdirty_d (q : Duo w0 A d c C G m u H Gr W Ar rc X w) {l : List Nat} {n : Nat} (hl : dirtL rc.L 12 = l) (hn : l.length = n) :
    Calls Try.prog 16 #[.pointer (some ⟨W, 0, none⟩)] w (GivesZ n (gzl l) w) := by
  have h1 := q.q.secs
  rw [q.n] at h1
  have := rdirties_c q.q.ca h1.1 h1.2 (by omega)
  rw [hl, q.at'] at this
  refine this.mono ?_
  rintro e w' ⟨v, rfl, ho, hb⟩
  exact ⟨v, rfl, ho.ownI hn, hb⟩
end
end Go.Proofs.Ytnfaeejeipbciaa
end
