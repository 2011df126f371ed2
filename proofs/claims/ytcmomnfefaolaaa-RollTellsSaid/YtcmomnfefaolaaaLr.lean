/-
  Bytes made with room behind them; a row known whole as a slice of one's own; an append where there is room.
-/
import Derived.Test.YtcmomnfefaolaaaAp
namespace Go.Proofs.Ytcmomnfefaolaaa
open Go.RowKit BigFrame

theorem wpList_make_cap_bytes {w : World} {ops : Array Oper} {rest : List Oper} {o : Oper} {a : Act} {Q : Exit → Act → World → Prop} (hg : o.guard = none) (l c : Operand) (hop : o.op = Op.makeSlice 22 l c)
    (m n : Nat) (C : Int) (hl : a.eval l = .int .i64 (m : Int)) (hc : a.eval c = .int .i64 C) (hC : C = (n : Int)) (hmn : m ≤ n) (hn : n ≤ 1000000)
    (hK : ∀ g w1, Hid (Row w1 g (zs n)) → w.heap.size ≤ g → Below w.heap.size w w1 → wpList Try.prog ops Q rest (a.put o.dst (.slice (some ⟨g, 0, none⟩) m n)) w1) :
    wpList Try.prog ops Q (o :: rest) a w := by
  obtain ⟨i, hi, hz0, hz1, hz2⟩ := info_parts Try.infoB
  subst hC
  refine wpList_plain hg fun K hK' => ?_
  have hrun := run_make (P := Try.prog) w 22 5 i (.int .u8 0) Try.underlying22 hi hz0 .i64 .i64 (m : Int) (n : Int) (by omega) (by omega) (by rw [hz2]; omega) (by omega)
  simp only [Int.toNat_natCast, hz1, Nat.mul_one] at hrun
  have e : madeCells (Value.int .u8 0).cells n = (bv (zs n)).toArray := made_bytes n
  rw [e] at hrun
  unfold Oper.wp
  simp [execOp, hop, hl, hc, hrun, Result.andThen]
  exact hK' _ _ (hK _ _ (heap_alloc_new w _) (Nat.le_refl _) ((Below.refl _ _).alloc (Nat.le_refl _) _))

/-- the first k of a row, as a slice of the call's own -/
theorem Row.own {w : World} {g base k cap : Nat} {L : List Nat} (h : Row w g L) (hc : L.length = cap) (hcm : cap ≤ 1000000) (hk : k ≤ cap) (hb : base ≤ g) : OwnB w base (.slice (some ⟨g, 0, none⟩) k cap) (L.take k) := by
  refine ⟨by rw [bv_length, Nat.mul_one], .inr ⟨g, cap, (bv L).toArray, by rw [List.length_take, Nat.min_eq_left (by omega)], hb, h, by rw [List.length_take]; omega, by unfold maxLen; omega, by simp [bv_length, hc], ?_⟩⟩
  rw [Nat.mul_one, List.length_take, Nat.min_eq_left (by omega), bv_take]

theorem wpList_append_room {w : World} {ops : Array Oper} {rest : List Oper} {o : Oper} {a : Act} {Q : Exit → Act → World → Prop} (hgd : o.guard = none) (s x : Operand)
    (ho : o.op = .call { callee := .builtin .append, args := #[s, x], argTypes := #[22, 22] })
    (g k cap : Nat) (L : List Nat) (hs : a.eval s = .slice (some ⟨g, 0, none⟩) k cap) (hrow : Row w g L) (hcap : L.length = cap) (hcm : cap ≤ 1000000)
    (sp : Option Addr) (n sCap : Nat) (m : List Nat) (hx : a.eval x = .slice sp n sCap) (hm : m.length = n) (hsrc : BAt w sp m) (hnil : sp = none → sCap = 0) (hroom : k + n ≤ cap)
    (h : ∀ w', Hid (Row w' g (splice L k m)) → (∀ B, B ≤ g → Below B w w') → wpList Try.prog ops Q rest (a.put o.dst (.slice (some ⟨g, 0, none⟩) (k + n) cap)) w') : wpList Try.prog ops Q (o :: rest) a w := by
  obtain ⟨i, hi, hz0, hz1, hz2⟩ := info_parts Try.infoB
  subst hm
  have own := hrow.own (base := 0) hcap hcm (show k ≤ cap by omega) (Nat.zero_le _)
  cases sp with
  | none =>
    obtain rfl := hnil rfl
    have hm : m = [] := by
      rcases hsrc with h | ⟨b, off, e, _⟩
      · exact List.eq_nil_of_length_eq_zero h
      · cases e
    subst hm
    refine wpList_append_own_none hgd s x _ ho 0 5 i 1 Try.underlying22 hi _ _ _ hs own hx (h _ ?_ (fun B _ => Below.refl _ _))
    show Row w g (splice L k [])
    unfold splice
    simpa using hrow
  | some ad =>
    refine wpList_plain hgd fun K hK => ?_
    have hrun := run_append_room (P := Try.prog) w 22 o.type 5 i Try.underlying22 hi g k cap (bv L).toArray hrow ad m.length sCap (bv m) (by rw [bv_length, hz1, Nat.mul_one]) (by
      intro j u hu
      obtain ⟨hj, rfl⟩ := bv_at hu
      obtain ⟨b, off, e⟩ := hsrc.addr (by omega)
      obtain rfl := Option.some.inj e
      rw [addr_add]; exact hsrc.cell hj) (bv_one m) hroom (by simp [bv_length, hz1]; omega)
    have e : ((bv L).toArray.toList.take (k * i.size) ++ bv m ++ (bv L).toArray.toList.drop (k * i.size + (bv m).length)) = bv (splice L k m) := by
      rw [hz1, Nat.mul_one, ← bv_splice]
      simp [splice]
    rw [e] at hrun
    unfold Oper.wp
    simp [execOp, ho, resolve, invoke, builtin, hs, hx, hrun, Result.andThen]
    refine hK _ _ (h _ ?_ (fun B hB => below_setRow (Below.refl _ _) hB _))
    exact setRow_heap w g _ _ _ _ hrow
end Go.Proofs.Ytcmomnfefaolaaa
