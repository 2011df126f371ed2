/-
  A copy that is lent, with spare room that is marked.
-/
import Derived.Test.YtbeaodmjobdiaaaAp
namespace Go.Proofs.Ytbeaodmjobdiaaa
open Go.RowKit BigFrame

theorem wpList_make_cap_bytes {w : World} {ops : Array Oper} {rest : List Oper} {o : Oper} {a : Act} {Q : Exit → Act → World → Prop} (hg : o.guard = none) (l c : Operand) (hop : o.op = Op.makeSlice 22 l c)
    (m n : Nat) (C : Int) (hl : a.eval l = .int .i64 (m : Int)) (hc : a.eval c = .int .i64 C) (hC : C = (n : Int)) (hmn : m ≤ n) (hn : n ≤ 1000000)
    (hK : ∀ g w1, Hid (Row w1 g (zs n)) → w.heap.size ≤ g → Below w.heap.size w w1 → wpList Try.prog ops Q rest (a.put o.dst (.slice (some ⟨g, 0, none⟩) m n)) w1) :
    wpList Try.prog ops Q (o :: rest) a w := by
  obtain ⟨i, hi, hz0, hz1, hz2⟩ := info_parts Try.infoB
  subst hC
  refine wpList_plain hg fun K hK' => ?_
  have hrun := run_make (P := Try.prog) w 22 5 i (.int .u8 0) Try.underlying22 hi hz0 .i64 .i64 (m : Int) (n : Int) (by omega) (by omega) (by rw [hz2]; omega) (by omega)
  simp only [Int.toNat_natCast, hz1, Nat.mul_one] at hrun
  have e : madeCells (Value.int .u8 0).cells n = (bv (zs n)).toArray := made_bytes n
  rw [e] at hrun
  unfold Oper.wp
  simp [execOp, hop, hl, hc, hrun, Result.andThen]
  exact hK' _ _ (hK _ _ (heap_alloc_new w _) (Nat.le_refl _) ((Below.refl _ _).alloc (Nat.le_refl _) _))

/-- the first k of a row, as a slice of the call's own -/
theorem Row.own {w : World} {g base k cap : Nat} {L : List Nat} (h : Row w g L) (hc : L.length = cap) (hcm : cap ≤ 1000000) (hk : k ≤ cap) (hb : base ≤ g) : OwnB w base (.slice (some ⟨g, 0, none⟩) k cap) (L.take k) := by
  refine ⟨by rw [bv_length, Nat.mul_one], .inr ⟨g, cap, (bv L).toArray, by rw [List.length_take, Nat.min_eq_left (by omega)], hb, h, by rw [List.length_take]; omega, by unfold maxLen; omega, by simp [bv_length, hc], ?_⟩⟩
  rw [Nat.mul_one, List.length_take, Nat.min_eq_left (by omega), bv_take]

theorem wpList_append_room {w : World} {ops : Array Oper} {rest : List Oper} {o : Oper} {a : Act} {Q : Exit → Act → World → Prop} (hgd : o.guard = none) (s x : Operand)
    (ho : o.op = .call { callee := .builtin .append, args := #[s, x], argTypes := #[22, 22] })
    (g k cap : Nat) (L : List Nat) (hs : a.eval s = .slice (some ⟨g, 0, none⟩) k cap) (hrow : Row w g L) (hcap : L.length = cap) (hcm : cap ≤ 1000000)
    (sp : Option Addr) (n sCap : Nat) (m : List Nat) (hx : a.eval x = .slice sp n sCap) (hm : m.length = n) (hsrc : BAt w sp m) (hnil : sp = none → sCap = 0) (hroom : k + n ≤ cap)
    (h : ∀ w', Hid (Row w' g (splice L k m)) → (∀ B, B ≤ g → Below B w w') → wpList Try.prog ops Q rest (a.put o.dst (.slice (some ⟨g, 0, none⟩) (k + n) cap)) w') : wpList Try.prog ops Q (o :: rest) a w := by
  obtain ⟨i, hi, hz0, hz1, hz2⟩ := info_parts Try.infoB
  subst hm
  have own := hrow.own (base := 0) hcap hcm (show k ≤ cap by omega) (Nat.zero_le _)
  cases sp with
  | none =>
    obtain rfl := hnil rfl
    have hm : m = [] := by
      rcases hsrc with h | ⟨b, off, e, _⟩
      · exact List.eq_nil_of_length_eq_zero h
      · cases e
    subst hm
    refine wpList_append_own_none hgd s x _ ho 0 5 i 1 Try.underlying22 hi _ _ _ hs own hx (h _ ?_ (fun B _ => Below.refl _ _))
    show Row w g (splice L k [])
    unfold splice
    simpa using hrow
  | some ad =>
    refine wpList_plain hgd fun K hK => ?_
    have hrun := run_append_room (P := Try.prog) w 22 o.type 5 i Try.underlying22 hi g k cap (bv L).toArray hrow ad m.length sCap (bv m) (by rw [bv_length, hz1, Nat.mul_one]) (by
      intro j u hu
      obtain ⟨hj, rfl⟩ := bv_at hu
      obtain ⟨b, off, e⟩ := hsrc.addr (by omega)
      obtain rfl := Option.some.inj e
      rw [addr_add]; exact hsrc.cell hj) (bv_one m) hroom (by simp [bv_length, hz1]; omega)
    have e : ((bv L).toArray.toList.take (k * i.size) ++ bv m ++ (bv L).toArray.toList.drop (k * i.size + (bv m).length)) = bv (splice L k m) := by
      rw [hz1, Nat.mul_one, ← bv_splice]
      simp [splice]
    rw [e] at hrun
    unfold Oper.wp
    simp [execOp, ho, resolve, invoke, builtin, hs, hx, hrun, Result.andThen]
    refine hK _ _ (h _ ?_ (fun B hB => below_setRow (Below.refl _ _) hB _))
    exact setRow_heap w g _ _ _ _ hrow

def spare (l : List Nat) (k : Nat) : List Nat := l ++ (List.replicate k 119 ++ zs (3 - k))
theorem spare_length {l : List Nat} {k : Nat} (h : k ≤ 3) : (spare l k).length = l.length + 3 := by simp [spare, zs]; omega
theorem spare_set {l : List Nat} {k : Nat} (h : k < 3) : (spare l k).set (l.length + k) 119 = spare l (k + 1) := by
  unfold spare
  rw [List.set_append, if_neg (by omega), Nat.add_sub_cancel_left]
  congr 1
  match k, h with
  | 0, _ => rfl
  | 1, _ => rfl
  | 2, _ => rfl
def marked (l : List Nat) : List Nat := l ++ [119, 119, 119]
theorem spare_three (l : List Nat) : spare l 3 = marked l := rfl
theorem spare_none (l : List Nat) : splice (zs (l.length + 3)) 0 l = spare l 0 := by
  unfold splice spare zs
  simp

def LendRel (g : Nat) (l : List Nat) (w : World) (i : Value) (wr : World) : Prop :=
  ∃ k : Nat, k ≤ 3 ∧ i = .int .i64 k ∧ Row wr g (spare l k) ∧ Below w.heap.size w wr
def LendPost (n : Nat) (l : List Nat) (w : World) (e : Ending) (w' : World) : Prop :=
  ∃ g, e = .returned (.slice (some ⟨g, 0, none⟩) n (n + 3)) ∧ w.heap.size ≤ g ∧ Row w' g (marked l) ∧ Below w.heap.size w w'

set_option maxHeartbeats 400000 in
theorem lend_any (a : Option Addr) (cap n : Nat) (l : List Nat) (w : World) (hn : l.length = n) (hl : n ≤ 100000) (hx : BAt w a l) (hnil : a = none → cap = 0) :
    Calls Try.prog 7 #[.slice a n cap] w (LendPost n l w) := by
  have hx' := Lib.hid hx
  have hn' := Lib.hid hn
  have hnil' := Lib.hid hnil
  clear hx hn hnil
  go_enter Try.func7, Try.ntmps7
  go_wp2_with (at_make; refine wpList_make_cap_bytes rfl _ _ rfl 0 (n + 3) _ rfl rfl (by omega) (by omega) (by omega) ?_)
  intro g w1 hr hg hb
  have hb' := Lib.hid hb
  clear hb
  go_wp2_with (at_builtin; refine wpList_append_room rfl (.tmp 10) (.tmp 11) rfl g 0 (n + 3) (zs (n + 3)) rfl hr.out (zs_length _) (by omega) a n cap l rfl hn'.out (hx'.out.on hb'.out (Nat.le_refl _)) hnil'.out (by omega) ?_)
  intro w2 hr2 hb2
  have hr2' := Lib.hid (show Row w2 g (spare l 0) by rw [← spare_none, hn'.out]; exact hr2.out)
  have hb2' := Lib.hid (hb'.out.trans (hb2 _ hg))
  clear hr2 hb2 hr
  go_wp2_with fail
  rw [show n + 3 - n = 3 by omega]
  go_loopw [5] (fun i wr => LendRel g l w i wr) (fun i _ => 3 - (intOf i).toNat)
  case atStart => exact ⟨0, by omega, rfl, hr2'.out, hb2'.out⟩
  case round =>
    obtain ⟨k, hk, rfl, hR, hB⟩ := hrel
    by_cases hlt : k < 3
    · have c1 := hR.cell (k := n + k) (by rw [spare_length hk, hn'.out]; omega)
      have c2 := hR.frozen (n + k)
      have hend := Lib.hid (show LendRel g l w (.int .i64 ((k : Int) + 1)) (wr.setCell ⟨g, n + k, none⟩ (.int .u8 119)) from ⟨k + 1, by omega, by go_num, by
        have h1 := hR.set (n + k) 119
        rw [← hn'.out, spare_set hlt] at h1
        rw [← hn'.out]
        exact h1, hB.setCell (p := ⟨g, n + k, none⟩) hg _⟩)
      clear hR hB
      go_wp2_with fail
      exact ⟨hend.out, by simp [intOf]; omega⟩
    · obtain rfl : k = 3 := by omega
      have hR' := Lib.hid hR
      have hB' := Lib.hid hB
      clear hR hB
      go_wp2_with fail
      go_ret
      exact ⟨g, rfl, hg, hR'.out, hB'.out⟩

theorem marked_length (l : List Nat) : (marked l).length = l.length + 3 := by simp [marked]
theorem marked_at (l : List Nat) {k : Nat} (h : k < 3) : bz (marked l) (l.length + k) = 119 := by
  unfold marked
  rw [bz_append_right (by omega), Nat.add_sub_cancel_left]
  match k, h with
  | 0, _ => rfl
  | 1, _ => rfl
  | 2, _ => rfl
theorem Row.bat_front {w : World} {g : Nat} {l m : List Nat} (h : Row w g (l ++ m)) : BAt w (some ⟨g, 0, none⟩) l := by
  have := h.bat.sub 0 l.length
  rwa [List.drop_zero, List.take_append_of_le_length (Nat.le_refl _), List.take_of_length_le (Nat.le_refl _)] at this

end Go.Proofs.Ytbeaodmjobdiaaa
