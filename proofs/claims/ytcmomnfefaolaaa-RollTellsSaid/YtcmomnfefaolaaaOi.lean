/-
  What is written over integers that were answered, and beyond.
-/
import Derived.Test.YtcmomnfefaolaaaIt
namespace Go.Proofs.Ytcmomnfefaolaaa
open Go.RowKit BigFrame

theorem one_newI (w : World) (x : Value) (t : TypeId) : ∀ j u, [x][j]? = some u → (w.alloc (.cells #[x] t)).cell? ((⟨w.heap.size, 0, none⟩ : Addr).add j) = some u := by
  intro j u hj
  match j, hj with
  | 0, hj =>
    simp only [List.getElem?_cons_zero, Option.some.injEq] at hj
    subst hj
    simp [Addr.add]
/-- an append that there is no room for, onto whatever lies there -/
theorem wpList_append_grow {P : Program} {w : World} {ops : Array Oper} {rest : List Oper} {o : Oper} {a : Act} {Q : Exit → Act → World → Prop} (hgd : o.guard = none) (s x : Operand) (t : TypeId)
    (ho : o.op = .call { callee := .builtin .append, args := #[s, x], argTypes := #[t, t] })
    (e : TypeId) (i : TypeInfo) (z : Value) (ht : P.underlying t = some (.slice e)) (hi : P.info? e = some i) (hz : i.zero = some z)
    (b : Addr) (sLen sCap : Nat) (olds : List Value) (hs : a.eval s = .slice (some b) sLen sCap) (hlo : olds.length = sLen * i.size) (holds : ∀ j v, olds[j]? = some v → w.cell? (b.add j) = some v)
    (ad : Addr) (n c : Nat) (news : List Value) (hx : a.eval x = .slice (some ad) n c) (hl : news.length = n * i.size) (hnews : ∀ j v, news[j]? = some v → w.cell? (ad.add j) = some v)
    (hg : sCap < sLen + n) (h63 : ((sLen + n : Nat) : Int) ≤ 9223372036854775807) (hfit : Builtin.nextslicecap (sLen + n) sCap * i.bytes ≤ 281474976710656)
    (h : ∀ v' w', (∀ B W, B ≤ w.heap.size → Below B W w → Below B W w') → wpList P ops Q rest (a.put o.dst v') w') : wpList P ops Q (o :: rest) a w := by
  refine wpList_plain hgd fun K hK => ?_
  have hrun := run_append_grow (P := P) (w := w) t o.type e i z ht hi hz b sLen sCap olds hlo holds ad n c news hl hnews hg h63 hfit
  unfold Oper.wp
  simp [execOp, ho, resolve, invoke, builtin, hs, hx, hrun, Result.andThen]
  exact hK _ _ (h _ _ fun B W hB hb => (hb.drew).alloc hB _)

def OvIRel (g n : Nat) (C : Nat → Int) (w : World) (i : Value) (wr : World) : Prop :=
  ∃ k : Nat, k ≤ n ∧ i = .int .i64 k ∧ At g n (fun p => if p < k then -999 else C p) wr ∧ Oth g w wr

set_option maxHeartbeats 1000000 in
theorem overI_any (g n : Nat) (C : Nat → Int) (w : World) (hn : n ≤ 40) (hA : At g n C w) :
    Calls Try.prog 24 #[.slice (some ⟨g, 0, none⟩) n n] w fun e w' => e = .returned (.tuple #[]) ∧ ∀ B, B ≤ g → B ≤ w.heap.size → Below B w w' := by
  obtain ⟨j0, hj, hk0, hk1, hk2⟩ := info_parts Try.infoI
  have hA' := Lib.hid hA
  clear hA
  go_enter Try.func24, Try.ntmps24
  go_wp2_with fail
  go_loopw [2] (fun i wr => OvIRel g n C w i wr) (fun i _ => n - (intOf i).toNat)
  case atStart => exact ⟨0, by omega, rfl, hA'.out.congr (fun p _ => by rw [if_neg (by omega)]), Oth.refl _ _⟩
  case round =>
    obtain ⟨k, hk, rfl, hA, hO⟩ := hrel
    by_cases hlt : k < n
    · have c1 := (hA k hlt).1
      have f1 := (hA k hlt).2
      have hA' := Lib.hid hA
      have hO' := Lib.hid hO
      clear hA hO
      go_wp2_with fail
      refine ⟨⟨k + 1, by omega, by go_num, (hA'.out.setCell hlt (-999)).congr fun p _ => ?_, hO'.out.setCell _⟩, by simp [intOf]; omega⟩
      unfold upd
      dsimp only
      repeat' split
      all_goals first | rfl | omega
    · have hkn : k = n := by omega
      subst hkn
      have hA' := Lib.hid hA
      have hO' := Lib.hid hO
      have hcap : Builtin.nextslicecap (k + 1) k * j0.bytes ≤ 281474976710656 := by
        have := nextslicecap_le (show k < k + 1 by omega)
        rw [hk2]; omega
      clear hA hO
      go_wp2_with (at_builtin; refine wpList_append_grow rfl _ _ 24 rfl 3 j0 (.int .i64 0) Try.underlying24 hj hk0 ⟨g, 0, none⟩ k k ((List.range k).map fun _ => .int .i64 (-999)) rfl ?c1 ?c2 ⟨wr.heap.size, 0, none⟩ 1 1 [.int .i64 (-999)] rfl ?c3 ?c4 ?c5 ?c6 hcap ?_)
      case c1 => simp [hk1]
      case c3 => simp [hk1]
      case c5 => omega
      case c6 => omega
      case c2 =>
        intro j v hv
        rw [List.getElem?_map] at hv
        obtain ⟨q, hq, rfl⟩ := Option.map_eq_some_iff.1 hv
        have hjk : j < k := by
          have := (List.getElem?_eq_some_iff.1 hq).1
          simpa using this
        have := (hA'.out j hjk).1
        dsimp only at this
        rw [if_pos hjk] at this
        have hlt2 : g < wr.heap.size := World.block_lt_of_cell? wr _ this
        have hadd : (⟨g, 0, none⟩ : Addr).add j = ⟨g, j, none⟩ := by unfold Addr.add; split <;> simp_all
        rw [hadd, ((Below.refl wr.heap.size wr).alloc (Nat.le_refl _) _).cell (p := ⟨g, j, none⟩) hlt2]
        exact this
      case c4 => exact one_newI _ _ _
      intro v' w2 hw2
      have hw2' := Lib.hid hw2
      clear hw2
      go_wp2_with fail
      go_end0
      refine ⟨rfl, fun B hB hBw => hw2'.out B w ?_ ?_⟩
      · have := hO'.out.size
        simp; omega
      · exact (below_oth (Below.refl _ w) hO'.out hB).alloc (by rw [hO'.out.size]; exact hBw) _
end Go.Proofs.Ytcmomnfefaolaaa
