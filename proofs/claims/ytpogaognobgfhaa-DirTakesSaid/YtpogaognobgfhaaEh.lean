/-
  A slot is spelled over bytes of a variable of the call's own; where its bytes stand.
-/
import Derived.Test.YtpogaognobgfhaaEc
import Derived.Test.YtpogaognobgfhaaPt
import Derived.Test.YtpogaognobgfhaaAv
import Derived.Deep.RegionHeld3
namespace Go.Proofs.Ytpogaognobgfhaa
open Go.RowKit BigFrame

theorem slotPart_any (g off n cap k : Nat) (w : World) (hk : k * 28 + 28 ≤ cap) (hk2 : k ≤ 1000) :
    Calls Try.prog 28 #[.slice (some ⟨g, off, none⟩) n cap, .int .i64 (k : Int)] w fun e w' => (∃ c, 28 ≤ c ∧ e = .returned (.slice (some ⟨g, off + k * 28, none⟩) 28 c)) ∧ w = w' := by
  obtain ⟨q, hq⟩ : ∃ q, k * 28 = q := ⟨_, rfl⟩
  have e1 : (k : Int) * 28 = (q : Int) := by omega
  have hne : ¬ cap = q := by omega
  have p1 : (0 : Int) ≤ (q : Int) := by omega
  obtain ⟨r, hr⟩ : ∃ r, q + 28 = r := ⟨_, rfl⟩
  have e2 : (q : Int) + 28 = (r : Int) := by omega
  have p2 : (q : Int) ≤ (r : Int) := by omega
  have p3 : (r : Int) ≤ (cap : Int) := by omega
  have hq8 : q ≤ 28000 := by omega
  have hr' := Lib.hid hr
  rw [hq]
  have hcap : q + 28 ≤ cap := by omega
  have hq' := Lib.hid hq
  clear hq hr hk
  go_enter Try.func28, Try.ntmps28
  go_wp2_with fail
  go_ret
  exact ⟨⟨cap - q, by omega, by show Ending.returned (.slice (some ⟨g, off + q, none⟩) (r - q) (cap - q)) = _; rw [← hr'.out, Nat.add_sub_cancel_left]⟩, rfl⟩

/-- what is spelled so far over block g, and nothing else turned -/
def StAt (t : TypeId) (g off : Nat) (L : List Nat) (wb : World) (P : List Nat) (wx : World) : Prop := RowT wx t g (splice L off P) ∧ Oth g wb wx
theorem StAt.drew {t : TypeId} {g off : Nat} {L : List Nat} {wb : World} {P : List Nat} {wx : World} (h : StAt t g off L wb P wx) : StAt t g off L wb P wx.drew := ⟨h.1.drew1, h.2.drew⟩
theorem StAt.cell {t : TypeId} {g off : Nat} {L : List Nat} {wb : World} {P : List Nat} {wx : World} (h : StAt t g off L wb P wx) {a : Addr} {v : Value} (hc : wb.cell? a = some v) (ha : ¬ a.block = g) : wx.cell? a = some v := (h.2.cell ha).trans hc
theorem StAt.put {t : TypeId} {g off : Nat} {L : List Nat} {wb : World} {P : List Nat} {wx : World} (h : StAt t g off L wb P wx) {C : Int} {s m cap : Nat} (o : Nat) (ho : o = off + P.length) (hC : C = (s : Int)) (hs : s < 4294967296) (hm : m ≤ 1000) (hl : off + (P.length + m) ≤ L.length) :
    Calls Try.prog 39 #[.slice (some ⟨g, o, none⟩) m cap, .int .i64 C] wx fun e w' => e = .returned (.tuple #[]) ∧ StAt t g off L wb (P ++ be m s) w' := by
  subst ho
  refine (put_tc t g (off + P.length) m cap (splice L off P) C s wx hC (by omega) hm h.1 (by rw [length_splice _ _ _ (by omega)]; omega)).mono fun e w' ⟨h1, h2, h3⟩ => ⟨h1, ?_, h.2.trans h3⟩
  rw [splice_splice _ _ _ _ (by omega)] at h2
  exact h2
theorem StAt.text {t : TypeId} {g off : Nat} {L : List Nat} {wb : World} {P : List Nat} {wx : World} (h : StAt t g off L wb P wx) {s : ByteArray} {n cap : Nat} (o : Nat) (ho : o = off + P.length) (hs : (nb s).length + 1 ≤ n) (h2 : 2 ≤ n) (hn : n ≤ 250) (hc : n ≤ cap) (hl : off + (P.length + n) ≤ L.length) :
    Calls Try.prog 40 #[.slice (some ⟨g, o, none⟩) n cap, .string s] wx fun e w' => e = .returned (.tuple #[]) ∧ StAt t g off L wb (P ++ txt n (nb s)) w' := by
  subst ho
  refine (putText_t t g (off + P.length) n cap (splice L off P) s wx h.1 (by rw [length_splice _ _ _ (by omega)]; omega) hs h2 hn hc).mono fun e w' ⟨h1, h2, h3⟩ => ⟨h1, ?_, h.2.trans h3⟩
  rw [splice_splice _ _ _ _ (by omega)] at h2
  exact h2

set_option maxHeartbeats 1000000 in
theorem slotSpell_any (t : TypeId) (g off cap : Nat) (L : List Nat) (s : Slt) (w : World) (hm : mayS s = true) (hc : 28 ≤ cap) (hrow : RowT w t g L) (hL : off + 28 ≤ L.length) :
    Calls Try.prog 27 #[.slice (some ⟨g, off, none⟩) 28 cap, sv s] w fun e w' => e = .returned (.tuple #[]) ∧ RowT w' t g (splice L off (spS s)) ∧ w.grownBy w' (some g) := by
  have hV := Lib.hid (Vw.alloc w (sc s) 23)
  have hb0 := (Below.refl w.heap.size w).alloc (Nat.le_refl _) (.cells (sc s).toArray 23)
  have hR0 := Lib.hid (hrow.on hb0 hrow.lt)
  have hb0' := Lib.hid hb0
  have hi := mayS_ino hm
  have hk := mayS_kind hm
  have hn := Lib.hid (mayS_len hm)
  obtain ⟨a, ha⟩ : ∃ a, s.ino.toNat = a := ⟨_, rfl⟩
  obtain ⟨b, hb⟩ : ∃ b, s.kind.toNat = b := ⟨_, rfl⟩
  have ha2 : s.ino = (a : Int) := by omega
  have hb2 : s.kind = (b : Int) := by omega
  have la : a < 65536 := by omega
  have lb : b < 256 := by omega
  have hsp := Lib.hid (show spS s = ([] ++ be 2 a ++ be 1 b) ++ txt 25 (nb s.name) by unfold spS; rw [ha, hb, List.nil_append, List.append_assoc]; rfl)
  obtain ⟨n, hnm⟩ : ∃ n, s.name = n := ⟨_, rfl⟩
  rw [hnm] at hsp hn
  have c0 := hV.out.cell (k := 0) (v := .int .i64 (a : Int)) (by rw [← ha2]; rfl)
  have c1 := hV.out.cell (k := 1) (v := .int .i64 (b : Int)) (by rw [← hb2]; rfl)
  have c2 := hV.out.cell (k := 2) (v := .string n) (by rw [← hnm]; rfl)
  have hgv : ¬ w.heap.size = g := fun e => by have := hrow.lt; omega
  have hLL := Lib.hid hL
  have b2 : (2 : Int) ≤ (cap : Int) := by omega
  have b3 : (3 : Int) ≤ (cap : Int) := by omega
  have n2 : ¬ cap = 2 := by omega
  have n3 : ¬ cap = 3 := by omega
  have n0 : ¬ cap = 0 := by omega
  clear hb0 hrow ha hb hL hi hk ha2 hb2 hnm hm
  obtain ⟨wb, hwb⟩ : ∃ wb, wb = w.alloc (.cells (sc s).toArray 23) := ⟨_, rfl⟩
  unfold sv
  go_enter Try.func27, Try.ntmps27
  go_wp2_with fail
  rw [← hwb] at hV hR0 hb0' c0 c1 c2 ⊢
  clear hwb
  have hC1 := Lib.hid c1
  have hC2 := Lib.hid c2
  have S0 := Lib.hid (show StAt t g off L wb [] wb from ⟨by rw [splice_nil]; exact hR0.out, Oth.refl _ _⟩)
  clear hR0 c1 c2
  go_region_held3 (fun w' => w'.cell? ⟨w.heap.size, 0, none⟩ = some (.int .i64 (a : Int))) (first | exact c0 | exact q0) (first
    | (go_at_call 39; refine (S0.out.drew.put off (by simp) rfl (by omega) (by omega) (by have := hLL.out; simp; omega)).mono ?_; rintro e w1 ⟨rfl, hS⟩; have q0 := hS.cell c0 hgv; have S1 := Lib.hid hS; clear hS))
  clear c0 q0
  have c1 := S1.out.cell hC1.out hgv
  clear S0
  go_wp2_with fail
  go_region_held3 (fun w' => w'.cell? ⟨w.heap.size, 1, none⟩ = some (.int .i64 (b : Int))) (first | exact c1 | exact q1) (first
    | (go_at_call 39; refine (S1.out.drew.put (off + 2) (by simp [be_length]) rfl (by omega) (by omega) (by have := hLL.out; simp [be_length]; omega)).mono ?_; rintro e w2 ⟨rfl, hS⟩; have q1 := hS.cell hC1.out hgv; have S2 := Lib.hid hS; clear hS))
  clear c1 q1 S1 hC1
  have c2 := S2.out.cell hC2.out hgv
  go_wp2_with fail
  go_region_held3 (fun w' => w'.cell? ⟨w.heap.size, 2, none⟩ = some (.string n)) (first | exact c2 | exact q2) (first
    | (go_at_call 40; refine (S2.out.drew.text (off + 3) (by simp [be_length]) (by have := hn.out; omega) (by omega) (by omega) (by omega) (by have := hLL.out; simp [be_length]; omega)).mono ?_; rintro e w3 ⟨rfl, hS⟩; have q2 := hS.cell hC2.out hgv; have S3 := Lib.hid hS; clear hS))
  clear c2 q2 S2 hC2
  go_wp2_with fail
  go_end0
  refine ⟨rfl, by rw [hsp.out]; exact S3.out.1, ?_⟩
  have h0 := hb0'.out
  have h1 := S3.out.2
  exact ⟨h1.os.trans h0.os, h1.tape.trans h0.tape, h1.output.trans h0.output, by rw [h1.size]; exact h0.size, fun k hk hn => (h1.block k (fun e => hn (by rw [e]))).trans (h0.block k hk)⟩
end Go.Proofs.Ytpogaognobgfhaa
