/-
  Arrays of bytes as variables of the call's own: laid, copied into, loaded whole, compared.
-/
import Derived.Test.YtghopfmidpobhaaBag
import Derived.Laws.StructEq
import Derived.Laws.Rows
namespace Go.Proofs.Ytghopfmidpobhaa
open Go.RowKit BigFrame

theorem run_part_byte (w : World) (X : List Nat) (i : Nat) (hi : i < X.length) : (part 5 (bv X).toArray i).run Try.prog w = .ok (.int .u8 ((bz X i : Nat) : Int)) w := by
  have h : (bv X).toArray[i]? = some (.int .u8 ((bz X i : Nat) : Int)) := by simpa using bv_get hi
  unfold part isAgg
  simp [run_underlying Try.underlying5, h]

theorem run_eq_body (d : Nat) (w : World) (X Y : List Nat) (i : Nat) (hX : i < X.length) (hY : i < Y.length) {R : Type} (yes no : Sem R) :
    Sem.run Try.prog (do
      let a ← part 5 (bv X).toArray i
      let b ← part 5 (bv Y).toArray i
      let r ← Op.equalIn (d + 1) 5 a b
      if (!r) = true then no else yes) w = if bz X i = bz Y i then yes.run Try.prog w else no.run Try.prog w := by
  simp only [Sem.run_bind, run_part_byte w X i hX, run_part_byte w Y i hY, Result.andThen_ok, run_equalIn_int w d 5 .u8 .u8 _ _ Try.underlying5]
  by_cases h : bz X i = bz Y i
  · rw [if_pos h, h]; simp
  · rw [if_neg h]
    have : (((bz X i : Nat) : Int) == ((bz Y i : Nat) : Int)) = false := by rw [beq_eq_false_iff_ne]; omega
    rw [this]; simp
theorem run_eq_loop (d : Nat) (w : World) (X Y : List Nat) (hXY : X.length = Y.length) : ∀ (m i : Nat), i + m = X.length → (∀ j, j < i → bz X j = bz Y j) →
    Sem.run Try.prog (forIn (List.range' i m 1) ((none, ()) : Option Bool × Unit) fun i _ => do
      let a ← part 5 (bv X).toArray i
      let b ← part 5 (bv Y).toArray i
      let r ← Op.equalIn (d + 1) 5 a b
      if (!r) = true then pure (ForInStep.done (some false, ())) else pure (ForInStep.yield (none, ()))) w = .ok ((if X = Y then none else some false), ()) w
  | 0, i, hi, hp => by
    have e : X = Y := bz_ext hXY (fun k hk => hp k (by omega))
    rw [if_pos e]
    simp [List.range']
  | m + 1, i, hi, hp => by
    rw [List.range'_succ, List.forIn_cons, Sem.run_bind, run_eq_body d w X Y i (by omega) (by omega)]
    by_cases h : bz X i = bz Y i
    · rw [if_pos h]
      simp only [Sem.run_pure, Result.andThen_ok]
      exact run_eq_loop d w X Y hXY m (i + 1) (by omega) (fun j hj => by
        by_cases e : j = i
        · subst e; exact h
        · exact hp j (by omega))
    · rw [if_neg h]
      have e : ¬ X = Y := fun e => h (by rw [e])
      simp [e]
theorem run_eq_bytes {t : TypeId} {len : Nat} (ht : Try.prog.underlying t = some (.array len 5)) (d : Nat) (w : World) (X Y : List Nat) (hX : X.length = len) (hY : Y.length = len) :
    (Op.equalIn (d + 2) t (.agg (bv X).toArray) (.agg (bv Y).toArray)).run Try.prog w = .ok (decide (X = Y)) w := by
  obtain ⟨i0, hi, hz0, hz1, hz2⟩ := info_parts Try.infoB
  have hs : (sizeOf 5).run Try.prog w = .ok 1 w := by simp [sizeOf, typeInfo, hi, hz1]
  rw [Op.equalIn]
  simp only [Sem.run_bind, run_underlying ht, Result.andThen_ok, hs, Nat.mul_one]
  rw [Std.Legacy.Range.forIn_eq_forIn_range']
  have hl := run_eq_loop d w X Y (by omega) len 0 (by omega) (fun j hj => by omega)
  have e : (List.range' [:len].start [:len].size [:len].step) = List.range' 0 len 1 := by simp [Std.Legacy.Range.size]
  rw [e, hl]
  by_cases h : X = Y
  · simp [h]
  · simp [h]

/-- a variable of the call's own: an array of bytes -/
def Vr (w : World) (t : TypeId) (g : Nat) (l : List Nat) : Prop := w.heap[g]? = some (.cells (bv l).toArray t (0, 0))
theorem Vr.lt {w : World} {t : TypeId} {g : Nat} {l : List Nat} (h : Vr w t g l) : g < w.heap.size := (Array.getElem?_eq_some_iff.1 h).1
theorem Vr.on {w w' : World} {t : TypeId} {g B : Nat} {l : List Nat} (h : Vr w t g l) (hb : Below B w w') (hg : g < B) : Vr w' t g l := by
  unfold Vr; rw [hb.block g hg]; exact h


theorem wpList_alloc_arr {w : World} {ops : Array Oper} {rest : List Oper} {o : Oper} {a : Act} {Q : Exit → Act → World → Prop} (hgd : o.guard = none) (hop : o.op = Op.alloc 36)
    (hK : ∀ g w1, Hid (Vr w1 36 g (zs 123)) → w.heap.size ≤ g → Below w.heap.size w w1 → wpList Try.prog ops Q rest (a.put o.dst (.pointer (some ⟨g, 0, none⟩))) w1) :
    wpList Try.prog ops Q (o :: rest) a w := by
  refine wpList_plain hgd fun K hK' => ?_
  unfold Oper.wp
  simp [execOp, hop, Result.andThen]
  exact hK' _ _ (hK _ _ (heap_alloc_new w _) (Nat.le_refl _) ((Below.refl _ _).alloc (Nat.le_refl _) _))

theorem Vr.grown {w w' : World} {t : TypeId} {r : Option Nat} {g : Nat} {l : List Nat} (h : Vr w t g l) (hg : w.grownBy w' r) (hr : some g ≠ r) : Vr w' t g l := by
  unfold Vr; rw [hg.block g h.lt hr]; exact h
theorem grownBy_setRow (w : World) (g : Nat) (cs : Array Value) : w.grownBy (w.setRow g cs) (some g) :=
  ⟨rfl, rfl, rfl, by simp [World.setRow], fun k _ hr => setRow_other w g k _ (fun e => hr (by rw [e]))⟩
theorem wpList_copy_vr {w : World} {ops : Array Oper} {rest : List Oper} {o : Oper} {a : Act} {Q : Exit → Act → World → Prop} (hgd : o.guard = none) (d s : Operand)
    (ho : o.op = .call { callee := .builtin .copy, args := #[d, s], argTypes := #[22, 22] }) (t : TypeId)
    (g dLen dCap : Nat) (sp : Option Addr) (n sCap : Nat) (L m : List Nat) (hd : a.eval d = .slice (some ⟨g, 0, none⟩) dLen dCap) (hs : a.eval s = .slice sp n sCap) (hm : m.length = n)
    (hrow : Vr w t g L) (hsrc : BAt w sp m) (hn : n ≤ dLen) (hfit : dLen ≤ L.length)
    (h : ∀ w', Hid (Vr w' t g (splice L 0 m)) → w.grownBy w' (some g) → wpList Try.prog ops Q rest (a.put o.dst (goInt n)) w') : wpList Try.prog ops Q (o :: rest) a w := by
  subst hm
  have hsz : (Try.prog.info? 5).map (·.size) = some 1 := by
    obtain ⟨i, hi, hz0, hz1, hz2⟩ := info_parts Try.infoB
    rw [hi]; simp [hz1]
  have hmin : Nat.min m.length dLen = m.length := Nat.min_eq_left hn
  by_cases h0 : m.length = 0
  · obtain rfl : m = [] := List.eq_nil_of_length_eq_zero h0
    refine wpList_copy_nothing hgd d s _ _ ho 5 Try.underlying22 hsz _ sp dLen dCap _ sCap hd hs hmin (h w ?_ (World.grownBy.refl _ _))
    show Vr w t g (splice L 0 [])
    simpa [splice] using hrow
  · obtain ⟨b, o', rfl⟩ := hsrc.addr (by omega)
    refine wpList_copy_own hgd d s _ _ ho 5 Try.underlying22 hsz g 0 dLen dCap ⟨b, o', none⟩ m.length sCap hd hs (bv L).toArray t hrow (bv m) (by rw [bv_length, hmin]) ?_ (by simp [bv_length]; omega) (bv_one _) ?_
    · intro j v hv
      obtain ⟨hj, rfl⟩ := bv_at hv
      rw [addr_add, hsrc.cell hj]
    · rw [bv_length]
      refine h _ ?_ (grownBy_setRow _ _ _)
      have e : ((bv L).toArray.toList.take 0 ++ (bv m ++ (bv L).toArray.toList.drop (0 + m.length))).toArray = (bv (splice L 0 m)).toArray := by
        simp [splice, bv]
      rw [e]
      exact setRow_heap w g _ _ _ _ hrow

theorem Try.sizeArr : (Try.prog.info? 36).map (·.size) = some 123 := by kernel_rfl
theorem wpList_load_vr {w : World} {ops : Array Oper} {rest : List Oper} {o : Oper} {a : Act} {Q : Exit → Act → World → Prop} (hw : Region.wanted o (yielded ops a.tmps) = true) (x : Operand) (ho : o.op = .load 36 x)
    (g : Nat) (l : List Nat) (hx : a.eval x = .pointer (some ⟨g, 0, none⟩)) (hv : Vr w 36 g l) (hl : l.length = 123) (V : Value) (hV : V = .agg (bv l).toArray)
    (h : wpList Try.prog ops Q rest (a.put o.dst V) w) : wpList Try.prog ops Q (o :: rest) a w := by
  subst hV
  refine wpList_want hw fun K hK => ?_
  exact wp_load_row 36 x ho g hx 36 (bv l).toArray (0, 0) _ hv Try.underlying36 rfl (by rw [Try.sizeArr]; simp [bv_length, hl]) (hK _ _ h)
theorem Try.eqGuardArr : Try.prog.eqGuardType Try.prog.depth 36 = false := by kernel_rfl
theorem same_diff (a b : Option Addr) (c1 c2 n : Nat) (l m : List Nat) (w : World) (hl : l.length = n) (hm : m.length = n) (hlm : l ≠ m) (hn : n ≤ 100000) (ha : BAt w a l) (hb : BAt w b m) :
    Calls Try.prog 13 #[.slice a n c1, .slice b n c2] w fun e w' => e = .returned (.bool false) ∧ Below w.heap.size w w' := by
  refine (same_any a b c1 c2 n n l m w hl hm hn ha hb).mono fun e w' h => ?_
  have := h.below
  rwa [show decide (l = m) = false by simpa using hlm] at this
theorem same_r (a b : Option Addr) (c1 c2 n : Nat) (l m : List Nat) (r : Bool) (w : World) (hl : l.length = n) (hm : m.length = n) (hr : decide (l = m) = r) (hn : n ≤ 100000) (ha : BAt w a l) (hb : BAt w b m) :
    Calls Try.prog 13 #[.slice a n c1, .slice b n c2] w fun e w' => e = .returned (.bool r) ∧ Below w.heap.size w w' := by
  subst hr
  exact (same_any a b c1 c2 n n l m w hl hm hn ha hb).mono fun e w' h => h.below
end Go.Proofs.Ytghopfmidpobhaa
