/-
  slices.Concat: two slices of texts, one behind the other.
  A path found.
-/
import Derived.Test.YtgcodlicbdaddaaGreatDoorB11
import Derived.Test.YtgcodlicbdaddaaGreatDoorB8
import Derived.Test.YtgcodlicbdaddaaGreatDoorB4
import Derived.WalkSpells
import Derived.Deep.LoopGhost
import Derived.Test.YtgcodlicbdaddaaGreatDoorB14

section
set_option linter.unusedVariables false
set_option linter.unusedSimpArgs false
namespace Go.Proofs.YtgcodlicbdaddaaGreatDoor
open Go.RowKit BigFrame
set_option maxRecDepth 100000

theorem run_append_blank {w : World} (k : Nat) (ty : TypeId) (h0 : 0 < k) (hlen : k ≤ 1000000) :
    ∃ cap cur, (Builtin.append_ #[36, 3] ty #[.slice none 0 0, .int .i64 (k : Int)]).run Tryz.prog w = .ok (.slice (some ⟨w.heap.size, 0, none⟩) k cap) (w.drew.alloc (.cells cur 9)) ∧ k ≤ cap ∧ cap ≤ maxLen ∧ cur.size = cap := by
  obtain ⟨i, hi, hz0, hz1, hz2⟩ := info_parts Tryz.infoT
  have hw : IntKind.i64.wrap (k : Int) = (k : Int) := by rw [IntKind.wrap_i64]; omega
  have hneg : ¬ (k : Int) < 0 := by omega
  have hbig : ¬ (281474976710656 : Int) < (k : Int) * (i.bytes : Int) := by rw [hz2]; omega
  have h00 : k ≠ 0 := by omega
  have h48 : ¬ (281474976710656 < Builtin.nextslicecap k 0 * i.bytes) := by
    rw [nextslicecap_zero (by omega), hz2]; omega
  have h63 : ¬ (9223372036854775807 < (k : Int)) := by omega
  have hge := grownCap_ge w k 0 9
  have hcm2 := grownCap_le_maxLen w k 0 9 (by unfold maxLen; omega)
  refine ⟨grownCap w k 0 9, Builtin.zeroCells (Value.string ByteArray.empty).cells k ++ Builtin.zeroCells (Value.string ByteArray.empty).cells (grownCap w k 0 9 - k), ?_, hge, hcm2, ?_⟩
  · simp [Builtin.append_, run_underlying Tryz.underlying36, run_underlying Tryz.underlying3, sizeOf, typeInfo, hi, hz0, hz1, zeroValue, asInt, asIntOf, hw, hneg, hbig, h00, h63, h48, Question.forced, run_firstCells_none, newRow, grownCap]
  · simp only [Array.size_append, size_zeroCells, Value.cells]
    simp; omega
theorem wpList_append_blank {w : World} {ops : Array Oper} {rest : List Oper} {o : Oper} {a : Act} {Q : Exit → Act → World → Prop} (hgd : o.guard = none) (s x : Operand)
    (ho : o.op = .call { callee := .builtin .append, args := #[s, x], argTypes := #[36, 3] })
    (k : Nat) (hs : a.eval s = .slice none 0 0) (hx : a.eval x = .int .i64 (k : Int)) (h0 : 0 < k) (hlen : k ≤ 1000000)
    (h : ∀ cap w', Hid (OwnT w' w.heap.size (.slice (some ⟨w.heap.size, 0, none⟩) 0 cap) []) → Hid (Below w.heap.size w w') → k ≤ cap → wpList Tryz.prog ops Q rest (a.put o.dst (.slice (some ⟨w.heap.size, 0, none⟩) k cap)) w') : wpList Tryz.prog ops Q (o :: rest) a w := by
  refine wpList_plain hgd fun K hK => ?_
  obtain ⟨cap, cur, hr, h1, h2, h3⟩ := run_append_blank (w := w) k o.type h0 hlen
  unfold Oper.wp
  simp [execOp, ho, resolve, invoke, builtin, hs, hx, hr, Result.andThen]
  refine hK _ _ (h cap _ ?_ ((Below.refl _ _).drew.alloc (Nat.le_refl _) _) h1)
  exact ⟨rfl, .inr ⟨w.heap.size, cap, cur, rfl, Nat.le_refl _, heap_alloc_new w.drew _, Nat.zero_le _, h2, by rw [h3, Nat.mul_one], rfl⟩⟩
def GivesO (L : List (List Nat)) (w : World) (e : Ending) (w' : World) : Prop := ∃ v, e = .returned v ∧ OwnT w' w.heap.size v L ∧ Below w.heap.size w w'
theorem grow_nil (n : Nat) (w : World) (hn : n ≤ 1000000) : Calls Tryz.prog 159 #[.slice none 0 0, .int .i64 (n : Int)] w (GivesO [] w) := by
  by_cases h0 : n = 0
  · subst h0
    go_enter Tryz.func159, Tryz.ntmps159
    go_wp2_with fail
    go_ret
    exact ⟨_, rfl, OwnT.nil _ _, Below.refl _ _⟩
  · have t1 : 0 < n := by omega
    clear h0
    go_enter Tryz.func159, Tryz.ntmps159
    go_wp2_with (at_builtin; refine wpList_append_blank rfl (.tmp 20) (.tmp 21) rfl n rfl rfl t1 hn ?_; intro cap w1 ho hb hc; have hb1 := Lib.hid hb.out; have ho1 := Lib.hid ho.out; clear ho hb)
    go_ret
    exact ⟨_, rfl, ho1.out, hb1.out⟩

theorem grow_c (n : Nat) (N : Int) (w : World) (hn : n ≤ 1000000) (hN : N = (n : Int)) : Calls Tryz.prog 159 #[.slice none 0 0, .int .i64 N] w (GivesO [] w) := by
  subst hN
  exact grow_nil n w hn
/-- texts laid behind others, be they none -/
theorem wpList_append_texts_any {w : World} {ops : Array Oper} {rest : List Oper} {o : Oper} {a : Act} {Q : Exit → Act → World → Prop} (hgd : o.guard = none) (s x : Operand)
    (ho : o.op = .call { callee := .builtin .append, args := #[s, x], argTypes := #[36, 36] })
    (base : Nat) (v : Value) (L : List (List Nat)) (hs : a.eval s = v) (hown : OwnT w base v L) (sp : Option Addr) (m sCap : Nat) (M : List (List Nat)) (hm : M.length = m) (hx : a.eval x = .slice sp m sCap) (hsrc : TAt w sp M) (hnil : sp = none → sCap = 0)
    (hlen : L.length + m ≤ 1000000) (hbase : base ≤ w.heap.size)
    (h : ∀ v' w', Hid (OwnT w' base v' (L ++ M)) → w.grownBy w' v.ownBlock → Below base w w' → wpList Tryz.prog ops Q rest (a.put o.dst v') w') : wpList Tryz.prog ops Q (o :: rest) a w := by
  cases sp with
  | none =>
    obtain rfl := hnil rfl
    have hM : M = [] := by
      rcases hsrc with h | ⟨b, off, e, _⟩
      · exact List.eq_nil_of_length_eq_zero h
      · cases e
    subst hM
    subst hm
    obtain ⟨i, hi, hz0, hz1, hz2⟩ := info_parts Tryz.infoT
    refine wpList_append_own_none hgd s x _ ho base 9 i 1 Tryz.underlying36 hi v L.length (tl L) hs hown hx (h _ _ ?_ (World.grownBy.refl _ _) (Below.refl _ _))
    show OwnT w base v (L ++ [])
    rw [List.append_nil]; exact hown
  | some ad => exact wpList_append_texts hgd s x ho base v L hs hown ad m sCap M hm hx hsrc hlen hbase h
/-- texts from one on -/
theorem wpList_cut_texts {w : World} {ops : Array Oper} {rest : List Oper} {o : Oper} {a : Act} {Q : Exit → Act → World → Prop} (hgd : o.guard = none) (x lo : Operand) (ho : o.op = Op.slice 36 x (some lo) none none)
    (q : Option Addr) (n cap k : Nat) (K : Int) (L : List (List Nat)) (hx : a.eval x = .slice q n cap) (hlo : a.eval lo = .int .i64 K) (hK : K = (k : Int)) (hk : k ≤ n) (hc : n ≤ cap) (hn : L.length = n) (hT : TAt w q L) (hnil : q = none → cap = 0)
    (h : ∀ pb, Hid (TAt w pb (L.drop k)) → Hid (pb = none → cap - k = 0) → wpList Tryz.prog ops Q rest (a.put o.dst (.slice pb (n - k) (cap - k))) w) : wpList Tryz.prog ops Q (o :: rest) a w := by
  subst hK hn
  have hsz : (sizeOf 9).run Tryz.prog w = .ok 1 w := by
    obtain ⟨i, hi, hz0, hz1, hz2⟩ := info_parts Tryz.infoT
    simp [sizeOf, typeInfo, hi, hz1]
  have hrun : (Instr.slice 36 (.slice q L.length cap) (some (.int .i64 (k : Int))) none none).run Tryz.prog w = .ok (.slice (if cap = k then q else q.map (·.add (k * 1))) (L.length - k) (cap - k)) w := by
    have h1 : (0 : Int) ≤ (k : Int) ∧ (k : Int) ≤ (L.length : Int) := by omega
    simp [Instr.slice, Instr.sliceBounds, Instr.sliceBound, asIntOf, run_underlying Tryz.underlying36, Sem.run_bind, hsz, h1, hk]
  refine wpList_plain hgd fun K hK => ?_
  have hsa := (run_sliceAt_slice (P := Tryz.prog) w 36 (.slice q L.length cap) (some (.int .i64 (k : Int))) none none Tryz.underlying36)
  unfold Oper.wp
  simp [execOp, ho, hx, hlo, hsa, hrun, Result.andThen]
  refine hK _ _ (h _ ?_ ?_)
  · by_cases e : cap = k
    · exact .inl (by rw [List.length_drop]; omega)
    · rw [if_neg e]
      cases q with
      | none => exact absurd (hnil rfl) (fun e0 => e (by omega))
      | some ad =>
        by_cases h0 : L.length = 0
        · exact .inl (by rw [List.length_drop]; omega)
        · obtain ⟨b, off, e2⟩ := hT.addr (by omega)
          obtain rfl := Option.some.inj e2
          have e3 : (Option.some (⟨b, off, none⟩ : Addr)).map (·.add k) = some ⟨b, off + k, none⟩ := congrArg some (addr_add b off k)
          first | rw [e3] | (rw [Nat.mul_one, e3])
          exact hT.drop k hk
  · intro e
    by_cases e1 : cap = k
    · omega
    · rw [if_neg e1] at e
      cases q with
      | none => have := hnil rfl; omega
      | some ad => cases e
/-- two slices lie there -/
def two (p q : Option Addr) (n c m d : Nat) : List Value := [.slice p n c, .slice q m d]
def SzRel (n m : Nat) (w : World) (g : Nat) (v i : Value) (wr : World) : Prop :=
  ∃ k : Nat, k + g = 3 ∧ 1 ≤ g ∧ i = .int .i64 k ∧ v = .int .i64 ((([n, m].take k).sum : Nat) : Int) ∧ w = wr
def CoRel (L M : List (List Nat)) (w : World) (g : Nat) (v i : Value) (wr : World) : Prop :=
  ∃ (k : Nat) (out : List (List Nat)), k + g = 3 ∧ 1 ≤ g ∧ i = .int .i64 k ∧ OwnT wr w.heap.size v out ∧ Below w.heap.size w wr ∧ out = ([L, M].take k).flatten
set_option maxHeartbeats 1000000 in
theorem concat_any (b : Nat) (p q : Option Addr) (n c m d : Nat) (L M : List (List Nat)) (w : World) (hn : L.length = n) (hm : M.length = m) (hL : TAt w p L) (hM : TAt w q M) (hp : p = none → c = 0) (hq : q = none → d = 0) (hs : n + m ≤ 10000)
    (h0 : w.cell? ⟨b, 0, none⟩ = some (.slice p n c)) (h1 : w.cell? ⟨b, 1, none⟩ = some (.slice q m d)) :
    Calls Tryz.prog 114 #[.slice (some ⟨b, 0, none⟩) 2 2] w (GivesO (L ++ M) w) := by
  have hn' := Lib.hid hn
  have hm' := Lib.hid hm
  have hL' := Lib.hid hL
  have hM' := Lib.hid hM
  have hs' := Lib.hid hs
  have hs2 := Lib.hid (show ((n : Int) + (m : Int)) = ((n + m : Nat) : Int) by omega)
  have t0 : decide ((n : Int) < 0) = false := decide_eq_false (by omega)
  have t1 : decide ((n : Int) + (m : Int) < 0) = false := decide_eq_false (by omega)
  clear hL hM hn hm
  go_enter Tryz.func114, Tryz.ntmps114
  go_wp2_with fail
  go_loopg [3, 11] 3 (fun g v i wr => SzRel n m w g v i wr)
  case atStart => exact ⟨0, rfl, by omega, rfl, rfl, rfl⟩
  case round =>
    obtain ⟨k, hk, hg1, rfl, rfl, rfl⟩ := hrel
    match k, hk with
    | 0, hk =>
      go_wp2_with fail
      go_roundg 2
      case measure => omega
      case rel => exact ⟨1, rfl, by omega, rfl, by simp, rfl⟩
    | 1, hk =>
      have e1 : ([n, m].take 1).sum = n := by simp
      simp only [e1]
      go_wp2_with fail
      go_roundg 1
      case measure => omega
      case rel => exact ⟨2, rfl, by omega, rfl, by simp, rfl⟩
    | 2, hk =>
      have e1 : ([n, m].take 2).sum = n + m := by simp
      simp only [e1]
      go_wp2_with (go_at_call 159; refine (grow_c (n + m) _ _ (by omega) (by omega)).mono ?_; rintro e w1 ⟨v1, rfl, ho, hb⟩; have hb1 := Lib.hid hb; have ho1 := Lib.hid ho; clear ho hb)
      go_loopg [6, 27] 3 (fun g v i wr => CoRel L M w g v i wr)
      case atStart => exact ⟨0, [], rfl, by omega, rfl, ho1.out, hb1.out, rfl⟩
      case round =>
        obtain ⟨k, out, hk, hg1, rfl, hO, hB, hout⟩ := hrel
        match k, hk with
        | 0, hk =>
          have c0 := cell_later hB h0
          have hO' := Lib.hid hO
          have hB' := Lib.hid hB
          have hT := Lib.hid (hL'.out.on hB (Nat.le_refl _))
          have ho0 := Lib.hid (show out.length = 0 by rw [hout]; rfl)
          have ho2 := Lib.hid (show out ++ L = ([L, M].take 1).flatten by rw [hout]; simp)
          clear hO hB hout
          go_wp2_with (at_builtin; refine wpList_append_texts_any rfl (.tmp 31) (.tmp 32) rfl w.heap.size _ out rfl hO'.out p n c L hn'.out rfl hT.out hp (by have := ho0.out; omega) hB'.out.size ?_; intro v2 w2 ho hg hb; have ho3 := Lib.hid ho.out; have hb3 := Lib.hid (hB'.out.trans hb); clear ho hg hb)
          go_roundg 2
          case measure => omega
          case rel => exact ⟨1, out ++ L, rfl, by omega, rfl, ho3.out, hb3.out, ho2.out⟩
        | 1, hk =>
          have c1 := cell_later hB h1
          have hO' := Lib.hid hO
          have hB' := Lib.hid hB
          have hT := Lib.hid (hM'.out.on hB (Nat.le_refl _))
          have ho0 := Lib.hid (show out.length = n by rw [hout]; simpa using hn'.out)
          have ho2 := Lib.hid (show out ++ M = ([L, M].take 2).flatten by rw [hout]; simp)
          clear hO hB hout
          go_wp2_with (at_builtin; refine wpList_append_texts_any rfl (.tmp 31) (.tmp 32) rfl w.heap.size _ out rfl hO'.out q m d M hm'.out rfl hT.out hq (by have := ho0.out; omega) hB'.out.size ?_; intro v2 w2 ho hg hb; have ho3 := Lib.hid ho.out; have hb3 := Lib.hid (hB'.out.trans hb); clear ho hg hb)
          go_roundg 1
          case measure => omega
          case rel => exact ⟨2, out ++ M, rfl, by omega, rfl, ho3.out, hb3.out, ho2.out⟩
        | 2, hk =>
          have ho2 := Lib.hid (show out = L ++ M by rw [hout]; simp)
          have hO' := Lib.hid hO
          have hB' := Lib.hid hB
          clear hO hB hout
          go_wp2_with fail
          go_ret
          rw [← ho2.out]
          exact ⟨_, rfl, hO'.out, hB'.out⟩
        | k + 3, hk => omega
    | k + 3, hk => omega
/-- .. of a block that was made for them -/
theorem concat_two (w : World) (p q : Option Addr) (n c m d : Nat) (L M : List (List Nat)) (hn : L.length = n) (hm : M.length = m) (hL : TAt w p L) (hM : TAt w q M) (hp : p = none → c = 0) (hq : q = none → d = 0) (hs : n + m ≤ 10000) :
    Calls Tryz.prog 114 #[.slice (some ⟨w.heap.size, 0, none⟩) 2 2] (w.alloc (.cells #[.slice p n c, .slice q m d] 36)) fun e w' => ∃ v, e = .returned v ∧ OwnT w' (w.heap.size + 1) v (L ++ M) ∧ Below w.heap.size w w' := by
  have hb := (Below.refl w.heap.size w).alloc (Nat.le_refl _) (.cells #[.slice p n c, .slice q m d] 36)
  refine (concat_any w.heap.size p q n c m d L M _ hn hm (hL.on hb (Nat.le_refl _)) (hM.on hb (Nat.le_refl _)) hp hq hs ?_ ?_).mono ?_
  · rw [cell_of_row _ w.heap.size _ _ _ _ (heap_alloc_new w _)]; rfl
  · rw [cell_of_row _ w.heap.size _ _ _ _ (heap_alloc_new w _)]; rfl
  · rintro e w' ⟨v, rfl, h1, h2⟩
    have hz : (w.alloc (.cells #[.slice p n c, .slice q m d] 36)).heap.size = w.heap.size + 1 := by simp
    rw [hz] at h1
    exact ⟨v, rfl, h1, hb.trans (h2.mono (by rw [hz]; omega))⟩
end Go.Proofs.YtgcodlicbdaddaaGreatDoor
end

section
set_option linter.unusedVariables false
set_option linter.unusedSimpArgs false
namespace Go.Proofs.YtgcodlicbdaddaaGreatDoor
open Go.RowKit BigFrame
set_option maxRecDepth 100000

/-- parts that may be -/
def PartsOk (L : List (List Nat)) : Prop := ∀ p ∈ L, Octs p ∧ p.length ≤ 24
theorem PartsOk.append {L M : List (List Nat)} (h : PartsOk L) (k : PartsOk M) : PartsOk (L ++ M) := fun p hp => by
  rcases List.mem_append.1 hp with h1 | h1
  · exact h p h1
  · exact k p h1
theorem PartsOk.drop {L : List (List Nat)} (h : PartsOk L) (k : Nat) : PartsOk (L.drop k) := fun p hp => h p (List.mem_of_mem_drop hp)
theorem parts_code {most : Nat} {l : List Nat} (ho : Octs l) (h : codeS most l = 0) : PartsOk (partsL l) ∧ (partsL l).length ≤ 20 := by
  obtain ⟨_, _, _, h4⟩ := codeS_zero.1 h
  obtain ⟨h5, h6⟩ := longL_no.1 h4
  exact ⟨fun p hp => ⟨OctsL.parts ho p hp, h5 p hp⟩, h6⟩
theorem Ok.step_alive {b : Nat} {s : Tr} (ho : Ok b s) {i : Nat} {x : Nd} (hi : s.opt i = some x) {p : List Nat} (h : (s.step i p).1 = 0) : ∃ y, s.opt (s.step i p).2 = some y := by
  have hx := Tr.at_of hi
  unfold Tr.step at h ⊢
  rw [hx] at h ⊢
  by_cases h1 : x.kind ≠ 2
  · rw [if_pos h1] at h; exact absurd h (by decide)
  · rw [if_neg h1] at h ⊢
    by_cases h2 : p = dots
    · rw [if_pos h2]
      by_cases h3 : x.up = 0
      · simp only [if_pos h3]; exact ⟨x, hi⟩
      · simp only [if_neg h3]
        obtain ⟨y, hy, _⟩ := ho.up i x hi h3
        exact ⟨y, hy⟩
    · rw [if_neg h2] at h ⊢
      cases hl : x.look p with
      | zero => rw [hl] at h; exact absurd h (by decide)
      | succ j =>
        obtain ⟨y, hy, _⟩ := ho.ent i x hi _ (look_mem hl (by omega))
        exact ⟨y, hy⟩
theorem OwnT.facts {w : World} {base n cap : Nat} {a : Option Addr} {L : List (List Nat)} (h : OwnT w base (.slice a n cap) L) : (a = none → cap = 0) ∧ cap ≤ maxLen := by
  obtain ⟨a', cap', e, _, h2, _, h4, _⟩ := h.slice
  simp only [Value.slice.injEq] at e
  obtain ⟨rfl, _, rfl⟩ := e
  exact ⟨h2, h4⟩
section
variable {w : World} {B b : Nat} {A : Ad} {s : Tr}
theorem walkIn_bad {itself : Bool} {cont : List (List Nat) → Nat → Int × Nat} {L : List (List Nat)} {m j n2 : Nat} {c : Int} {R : Int × Nat} (hm : m < L.length) (hq : s.step j (tz L m) = (c, n2)) (hc : c ≠ 0) (h : s.walkIn itself cont (L.drop m) j = R) : R = (c, 0) := by
  rw [tz_drop hm, Tr.walkIn, hq, if_pos hc] at h
  exact h.symm
theorem walkIn_on {itself : Bool} {cont : List (List Nat) → Nat → Int × Nat} {L : List (List Nat)} {m j n2 : Nat} {R : Int × Nat} (hm : m < L.length) (hq : s.step j (tz L m) = (0, n2)) (hc : (s.at n2).kind ≠ 3 ∨ itself = true ∧ L.drop (m + 1) = []) (h : s.walkIn itself cont (L.drop m) j = R) : s.walkIn itself cont (L.drop (m + 1)) n2 = R := by
  rw [tz_drop hm, Tr.walkIn, hq, if_neg (fun h => h rfl), if_pos hc] at h
  exact h
theorem walkIn_link {itself : Bool} {cont : List (List Nat) → Nat → Int × Nat} {L : List (List Nat)} {m j n2 : Nat} {R : Int × Nat} (hm : m < L.length) (hq : s.step j (tz L m) = (0, n2)) (hc : ¬ ((s.at n2).kind ≠ 3 ∨ itself = true ∧ L.drop (m + 1) = [])) (h : s.walkIn itself cont (L.drop m) j = R) :
    cont (psOf (codeS 100 (s.at n2).data) (s.at n2).data ++ L.drop (m + 1)) (if rootT (s.at n2).data then 1 else j) = R := by
  rw [tz_drop hm, Tr.walkIn, hq, if_neg (fun h => h rfl), if_neg hc] at h
  exact h
def FiRel (A : Ad) (s : Tr) (itself : Bool) (R : Int × Nat) (w : World) (g : Nat) (l a i : Value) (wr : World) : Prop :=
  ∃ (k j : Nat) (L : List (List Nat)) (p : Option Addr) (cap : Nat) (x : Nd), k + g = 10 ∧ 1 ≤ g ∧ i = .int .i64 k ∧ l = .slice p L.length cap ∧ TAt wr p L ∧ (p = none → cap = 0) ∧ L.length ≤ cap ∧ cap ≤ maxLen ∧ a = .pointer (some ⟨A.nd j, 0, none⟩) ∧ s.opt j = some x ∧ PartsOk L ∧ L.length ≤ 20 * (k + 1) ∧
    s.walk itself (9 - k) L j = R ∧ Below w.heap.size w wr
def FjRel (A : Ad) (s : Tr) (itself : Bool) (R : Int × Nat) (L : List (List Nat)) (l0 : Value) (k : Nat) (wr : World) (g : Nat) (l a i : Value) (wx : World) : Prop :=
  ∃ (m j : Nat) (x : Nd), l = l0 ∧ m + g = L.length + 1 ∧ 1 ≤ g ∧ i = .int .i64 m ∧ a = .pointer (some ⟨A.nd j, 0, none⟩) ∧ s.opt j = some x ∧ s.walkIn itself (s.walk itself (8 - k)) (L.drop m) j = R ∧ Below wr.heap.size wr wx
set_option maxHeartbeats 2000000 in
theorem find_any (h : TreeAt w B A s) (ho : Ok b s) (hb : b ≤ 1000000) (p : ByteArray) (itself : Bool) :
    Calls Tryz.prog 59 #[.pointer (some ⟨A.t, 0, none⟩), .string p, .bool itself] w (StepPost A (s.find (nb p) itself) w) := by
  by_cases hc : codeP (nb p) = 0
  · have hh := Lib.hid h
    have hR := Lib.hid (show s.find (nb p) itself = s.walk itself 9 (partsL (nb p)) 1 by unfold Tr.find; rw [if_neg (by simpa using hc)])
    have hp := Lib.hid (parts_code (nb_octs p) (show codeS 200 (nb p) = 0 by unfold codeP at hc; split at hc; exact hc; exact absurd hc (by decide)))
    obtain ⟨R, hRR⟩ : ∃ R, s.find (nb p) itself = R := ⟨_, rfl⟩
    rw [hRR] at hR ⊢
    clear h hRR
    go_enter Tryz.func59, Tryz.ntmps59
    go_wp2_with fail
    go_step3
    go_wp2_with (first
      | (go_at_call 111; refine (pSplit_is p _ (partsL (nb p)) 0 hc rfl).mono ?_; rintro e w1 ⟨a1, c1, rfl, ho1, ht1, hl1, hb1⟩)
      | (go_at_call 69; refine (root_any (hh.out.below hb1.out) ho).mono ?_; rintro e w2 ⟨rfl, rfl⟩))
    go_step3
    go_wp2_with fail
    go_loopg [8, 10, 29] 10 (fun g l a i wr => FiRel A s itself R w g l a i wr)
    case atStart => exact ⟨0, 1, partsL (nb p), a1, c1, s.at 1, rfl, by omega, rfl, rfl, ht1.out, ho1.out.facts.1, hl1.out, ho1.out.facts.2, rfl, ho.alive, hp.out.1, by have := hp.out.2; omega, hR.out.symm, hb1.out⟩
    case round =>
      obtain ⟨k, j, L, q, cap, x, hk, hg1, rfl, rfl, hT, hnil, hle, hmx, rfl, hx, hpo, hln, hW, hB⟩ := hrel
      have hT' := Lib.hid hT
      have hnil' := Lib.hid hnil
      have hle' := Lib.hid hle
      have hmx' := Lib.hid hmx
      have hx' := Lib.hid hx
      have hpo' := Lib.hid hpo
      have hln' := Lib.hid hln
      have hW' := Lib.hid hW
      have hB' := Lib.hid hB
      have hwr := Lib.hid (hh.out.below hB)
      clear hT hnil hle hmx hx hpo hln hW hB
      by_cases hlt : k < 9
      · obtain ⟨g, rfl⟩ : ∃ g, gk = g + 1 := ⟨gk - 1, by omega⟩
        have t9 : decide ((k : Int) < 9) = true := decide_eq_true (by omega)
        have t8 : decide (k < 9) = true := decide_eq_true hlt
        go_wp2_with fail
        go_loopg [8, 10, 33] (L.length + 1) (fun g l a i wx => FjRel A s itself R L (.slice q L.length cap) k wr g l a i wx)
        case atStart => exact ⟨0, j, x, rfl, by omega, by omega, rfl, rfl, hx'.out, by rw [List.drop_zero, ← hW'.out, show 9 - k = (8 - k) + 1 by omega]; rfl, Below.refl _ _⟩
        case round =>
          obtain ⟨m, i, y, rfl, hm, hg2, rfl, rfl, hy, hV, hbx⟩ := hrel
          have hV' := Lib.hid hV
          have hbx' := Lib.hid hbx
          have hB2 := Lib.hid (hB'.out.trans (hbx.mono hB'.out.size))
          have hwx := Lib.hid (hwr.out.below hbx)
          by_cases hmL : m < L.length
          · obtain ⟨g2, rfl⟩ : ∃ g, gk = g + 1 := ⟨gk - 1, by omega⟩
            obtain ⟨qb, qo, rfl⟩ := hT'.out.addr (by omega)
            have hTx := Lib.hid (hT'.out.on hbx (Nat.le_refl _))
            have c1 := hTx.out.cell hmL
            obtain ⟨hoct, hlen⟩ := hpo'.out _ (tz_mem hmL)
            obtain ⟨⟨c, n2⟩, hq⟩ : ∃ q, s.step i (tz L m) = q := ⟨_, rfl⟩
            have hst := Lib.hid (step_any hwx.out ho hb i y hy (tz L m) hoct (by omega))
            rw [hq] at hst
            obtain ⟨z, hz⟩ : ∃ z, strOf (tz L m) = z := ⟨_, rfl⟩
            rw [hz] at hst c1
            have hq' := Lib.hid hq
            have hmL' := Lib.hid hmL
            clear hV hbx
            by_cases hc0 : c = 0
            · subst hc0
              obtain ⟨y2, hy2⟩ := ho.step_alive hy (by rw [hq])
              rw [hq] at hy2
              have hm1 : m < 1000 := by have := hln'.out; omega
              have hmc : m + 1 ≤ cap := by have := hle'.out; omega
              have hat := Tr.at_of hy2
              have tk : True := trivial
              by_cases hk3 : y2.kind = 3
              · by_cases hit : itself = true ∧ L.drop (m + 1) = []
                · have hon := Lib.hid (walkIn_on hmL hq (.inr hit) hV'.out)
                  obtain ⟨rfl, hdr⟩ := hit
                  have t0 : L.length - (m + 1) = 0 := by have := congrArg List.length hdr; rwa [List.length_drop] at this
                  have hy2' := Lib.hid hy2
                  have hk3' := Lib.hid hk3
                  clear hq hz hmL hy2 hat hk3 hdr
                  go_wp2_with (first
                    | (go_at_call 112; refine hst.out.mono ?_; rintro e w3 ⟨rfl, hb3⟩; have hbx3 := Lib.hid (hbx'.out.trans (hb3.mono hbx'.out.size)); have ck := ((hwx.out.below hb3).node n2 y2 hy2'.out).kind; rw [hk3'.out] at ck; have hT3 := Lib.hid (hTx.out.on hb3 (Nat.le_refl _)); clear hb3)
                    | (have _t := tk; refine wpList_cut_texts rfl (.tmp 48) (.tmp 50) rfl _ L.length cap (m + 1) _ L rfl rfl (by omega) hmL'.out hle'.out rfl hT3.out (fun h => by cases h) ?_; intro pb hpb hpn; clear tk))
                  go_roundg g2
                  case measure => omega
                  case rel => exact ⟨m + 1, n2, y2, rfl, by omega, by omega, by go_num, rfl, hy2'.out, hon.out, hbx3.out⟩
                · have hon := Lib.hid (walkIn_link hmL hq (fun h => h.elim (fun h => h (by rw [hat]; exact hk3)) hit) hV'.out)
                  rw [hat] at hon
                  have hcode := (ho.each n2 y2 hy2).link hk3
                  have hN2 := hwx.out.node n2 y2 hy2
                  have hod := Lib.hid hN2.oct
                  obtain ⟨pd, cpd, hde, _, _, _⟩ := hN2.data.slice
                  have hde' := Lib.hid hde
                  have hts := Lib.hid (parts_code hN2.oct hcode)
                  have hps : psOf (codeS 100 y2.data) y2.data = partsL y2.data := by rw [hcode]; rfl
                  rw [hps] at hon
                  obtain ⟨rt, hrt⟩ : ∃ rt, rootT y2.data = rt := ⟨_, rfl⟩
                  rw [hrt] at hon
                  have ht1 := Lib.hid (show codeS 100 (nb (strOf y2.data)) = 0 by rw [nb_strOf hN2.oct]; exact hcode)
                  have ht2 := Lib.hid (show rootT (nb (strOf y2.data)) = rt by rw [nb_strOf hN2.oct]; exact hrt)
                  have ht3 := Lib.hid (show psOf 0 (nb (strOf y2.data)) = partsL y2.data by rw [nb_strOf hN2.oct]; rfl)
                  have hy2' := Lib.hid hy2
                  have hk3' := Lib.hid hk3
                  have hit' := Lib.hid hit
                  have tk2 : True := trivial
                  have tl : itself = true → (((L.length - (m + 1) : Nat) : Int) == 0) = false := fun e => by
                    rw [beq_eq_false_iff_ne]
                    intro e2
                    exact hit ⟨e, List.drop_of_length_le (by omega)⟩
                  clear hq hz hmL hy2 hat hk3 hit hcode hN2 hde hps hrt
                  cases itself
                  all_goals (
                    try (have t0 := tl rfl)
                    clear tl
                    cases rt
                    all_goals (
                      go_wp2_with (first
                        | (go_at_call 112; refine hst.out.mono ?_; rintro e w3 ⟨rfl, hb3⟩; have hB3 := Lib.hid (hB2.out.trans (hb3.mono hB2.out.size)); have hw3 := Lib.hid (hwx.out.below hb3); have hN3 := hw3.out.node n2 y2 hy2'.out; have ck := hN3.kind; rw [hk3'.out] at ck; have cd := hN3.dat; rw [hde'.out] at cd; have hcv := run_string (n := y2.data.length) rfl hod.out (show BAt w3 pd y2.data by (obtain ⟨p', c', e', hb', _, _⟩ := hN3.data.slice; rw [hde'.out] at e'; simp only [Value.slice.injEq] at e'; obtain ⟨rfl, _, rfl⟩ := e'; exact hb')) (cap := cpd); have hT3 := Lib.hid (hTx.out.on hb3 (Nat.le_refl _)); clear hb3 hN3)
                        | (have _t := tk; refine wpList_cut_texts rfl (.tmp 48) (.tmp 50) rfl _ L.length cap (m + 1) _ L rfl rfl (by omega) hmL'.out hle'.out rfl hT3.out (fun h => by cases h) ?_; intro pb hpb hpn; clear tk)
                        | (go_at_call 113; refine (pTarget_is _ _ _ _ _ ht1.out ht2.out ht3.out).mono ?_; rintro e w4 ⟨a4, c4, rfl, o4, t4, l4, b4⟩; have hB4 := Lib.hid (hB3.out.trans (b4.out.mono hB3.out.size)); have hpb4 := Lib.hid (hpb.out.on b4.out (Nat.le_refl _)); have hw4 := Lib.hid (hw3.out.below b4.out); clear b4)
                        | (go_at_call 69; refine (root_any hw4.out ho).mono ?_; rintro e w5 ⟨rfl, rfl⟩)
                        | (go_at_call 114; refine (concat_two _ a4 pb _ _ _ _ (partsL y2.data) (L.drop (m + 1)) rfl (by rw [List.length_drop]) t4.out hpb4.out o4.out.facts.1 hpn.out (by have := hts.out.2; have := hln'.out; omega)).mono ?_; rintro e w6 ⟨v6, rfl, o6, b6⟩; have hB6 := Lib.hid (hB4.out.trans (b6.mono hB4.out.size)); obtain ⟨p6, c6, rfl, h61, h62, h63, h64, _⟩ := o6.slice; have t6 := Lib.hid h61; have n6 := Lib.hid h62; have l6 := Lib.hid h63; have m6 := Lib.hid h64; clear o6 b6 h61 h62 h63 h64))
                      go_roundg g
                      case measure => omega
                      case rel => exact ⟨k + 1, _, partsL y2.data ++ L.drop (m + 1), p6, c6, _, by omega, by omega, by go_num, by rw [List.length_append, List.length_drop], t6.out, n6.out, l6.out, m6.out, rfl, by first | exact ho.alive | exact hy, hts.out.1.append (hpo'.out.drop _), by rw [List.length_append, List.length_drop]; have := hts.out.2; have := hln'.out; omega, by rw [show 9 - (k + 1) = 8 - k by omega]; exact hon.out, hB6.out⟩))
              · have hon := Lib.hid (walkIn_on hmL hq (.inl (by rw [hat]; exact hk3)) hV'.out)
                have t0 : (((y2.kind : Nat) : Int) != 3) = true := by rw [bne_iff_ne]; omega
                have hy2' := Lib.hid hy2
                clear hq hz hmL hy2 hat hk3
                go_wp2_with (first
                  | (go_at_call 112; refine hst.out.mono ?_; rintro e w3 ⟨rfl, hb3⟩; have hbx3 := Lib.hid (hbx'.out.trans (hb3.mono hbx'.out.size)); have ck := ((hwx.out.below hb3).node n2 y2 hy2'.out).kind; have hT3 := Lib.hid (hTx.out.on hb3 (Nat.le_refl _)); clear hb3)
                  | (have _t := tk; refine wpList_cut_texts rfl (.tmp 48) (.tmp 50) rfl _ L.length cap (m + 1) _ L rfl rfl (by omega) hmL'.out hle'.out rfl hT3.out (fun h => by cases h) ?_; intro pb hpb hpn; clear tk))
                go_roundg g2
                case measure => omega
                case rel => exact ⟨m + 1, n2, y2, rfl, by omega, by omega, by go_num, rfl, hy2'.out, hon.out, hbx3.out⟩
            · have hRc := Lib.hid (walkIn_bad hmL hq hc0 hV'.out)
              have t0 : (c != 0) = true := by rw [bne_iff_ne]; exact hc0
              clear hq hz hmL
              go_wp2_with (go_at_call 112; refine hst.out.mono ?_; rintro e w3 ⟨rfl, hb3⟩; have hb4 := Lib.hid (hB2.out.trans (hb3.mono hB2.out.size)); clear hb3)
              go_ret2
              rw [hRc.out]
              exact ⟨by rw [if_neg hc0]; rfl, hb4.out⟩
          · have hend := Lib.hid (show (0, i) = R by rw [← hV'.out, List.drop_of_length_le (by omega)]; rfl)
            have t0 : decide (((m : Nat) : Int) < ((L.length : Nat) : Int)) = false := decide_eq_false (by omega)
            have t1 : decide (m < L.length) = false := decide_eq_false hmL
            clear hV hbx
            go_wp2_with fail
            go_ret2
            rw [← hend.out]
            exact ⟨rfl, hB2.out⟩
      · have hend := Lib.hid (show (12, 0) = R by rw [← hW'.out, show 9 - k = 0 by omega]; rfl)
        have t0 : decide (((k : Nat) : Int) < 9) = false := decide_eq_false (by omega)
        have t1 : decide (k < 9) = false := decide_eq_false hlt
        go_wp2_with fail
        go_ret2
        rw [← hend.out]
        exact ⟨rfl, hB'.out⟩
  · have hR := Lib.hid (show s.find (nb p) itself = (codeP (nb p), 0) by unfold Tr.find; rw [if_pos hc])
    obtain ⟨c, hcc⟩ : ∃ c, codeP (nb p) = c := ⟨_, rfl⟩
    have t0 : (c != 0) = true := by rw [bne_iff_ne, ← hcc]; exact hc
    rw [hcc] at hR
    have hcc' := Lib.hid hcc
    clear h hc hcc
    go_enter Tryz.func59, Tryz.ntmps59
    go_wp2_with fail
    go_step3
    go_wp2_with (go_at_call 111; refine (pSplit_is p _ _ c hcc'.out rfl).mono ?_; rintro e w1 ⟨a1, c1, rfl, ho1, ht1, hl1, hb1⟩)
    go_ret2
    rw [hR.out]
    refine ⟨?_, hb1.out⟩
    rw [if_neg (by simpa using t0)]
    rfl
end
end Go.Proofs.YtgcodlicbdaddaaGreatDoor
end
