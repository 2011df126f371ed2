/-
  Two orders of the same are the same; what SameInts tells of lists that are; a copy of a slice of the call's own.
-/
import Derived.Test.YtdnemlanahlnpaaDoorPig
import Derived.Laws.AppendOwnNone
import Derived.Deep.QuietTactic
import Derived.BigQuiet
namespace Go.Proofs.YtdnemlanahlnpaaDoor
open Go.RowKit Fl BigFrame

theorem ltk_not {K : Int → Int} {x y : Int} (h : ltk K x y) (h2 : ltk K y x) : False := by
  unfold ltk at h h2; omega
/-- an order is told by what it orders -/
theorem places_unique {K : Int → Int} {R C : Nat → Int} {n : Nat} (hR : Places K R n) (hC : Places K C n) : ∀ p, p < n → R p = C p := by
  intro p
  induction p using Nat.strongRecOn with
  | _ p ih =>
    intro hp
    obtain ⟨c, hc⟩ := Int.eq_ofNat_of_zero_le (hC.2 p hp).1
    obtain ⟨r, hr⟩ := Int.eq_ofNat_of_zero_le (hR.2 p hp).1
    have hcn : c < n := by have := (hC.2 p hp).2; omega
    have hrn : r < n := by have := (hR.2 p hp).2; omega
    obtain ⟨q, hq, eq⟩ := hR.each c hcn
    obtain ⟨p', hp', ep⟩ := hC.each r hrn
    by_cases h1 : q < p
    · have := ih q h1 hq
      have := hC.1.ne q p h1 hp
      omega
    · by_cases h2 : p' < p
      · have := ih p' h2 hp'
        have := hR.1.ne p' p h2 hp
        omega
      · by_cases h3 : q = p
        · subst h3; omega
        · by_cases h4 : p' = p
          · subst h4; omega
          · have a := hR.1 p q (by omega) (by omega) hq
            have b := hC.1 p p' (by omega) (by omega) hp'
            rw [eq, ← hc] at a
            rw [ep, ← hr] at b
            exact (ltk_not a b).elim

/-- an order of one more, without that one -/
def without (D : Nat → Int) (m p : Nat) : Int := if p < m then D p else D (p + 1)
theorem places_without {K K' : Int → Int} {D : Nat → Int} {n m : Nat} (h : Places K' D (n + 1)) (hm : m < n + 1) (hD : D m = n) (hK : ∀ x : Int, 0 ≤ x → x < n → K' x = K x) : Places K (without D m) n := by
  have hne : ∀ p, p < n + 1 → p ≠ m → D p ≠ n := fun p hp hpm e => by
    by_cases h1 : p < m
    · exact h.1.ne p m h1 hm (e.trans hD.symm)
    · exact h.1.ne m p (by omega) hp (hD.trans e.symm)
  have hr : ∀ p, p < n → 0 ≤ without D m p ∧ without D m p < n := by
    intro p hp
    unfold without
    split
    · have a := h.2 p (by omega); have b := hne p (by omega) (by omega); omega
    · have a := h.2 (p + 1) (by omega); have b := hne (p + 1) (by omega) (by omega); omega
  refine ⟨fun p q _ h2 h3 => ?_, hr⟩
  have a := hr p (by omega)
  have b := hr q h3
  have key : ltk K' (without D m p) (without D m q) := by
    unfold without
    split <;> split
    · exact h.1 p q (by omega) h2 (by omega)
    · exact h.1 p (q + 1) (by omega) (by omega) (by omega)
    · omega
    · exact h.1 (p + 1) (q + 1) (by omega) (by omega) (by omega)
  unfold ltk at key ⊢
  rw [hK _ a.1 a.2, hK _ b.1 b.2] at key
  exact key

/-- the integers that lie there, if any -/
def IntsAt (w : World) (a : Option Addr) (n : Nat) (R : Nat → Int) : Prop := n = 0 ∨ ∃ b off, a = some ⟨b, off, none⟩ ∧ ∀ k, k < n → w.cell? ⟨b, off + k, none⟩ = some (.int .i64 (R k))
theorem IntsAt.drew {w : World} {a : Option Addr} {n m : Nat} {R : Nat → Int} (h : IntsAt w a n R) : IntsAt (w.drewN m) a n R := h
theorem IntsAt.on {w w' : World} {a : Option Addr} {n B : Nat} {R : Nat → Int} (h : IntsAt w a n R) (hb : Below B w w') (hB : B = w.heap.size) : IntsAt w' a n R := by
  rcases h with h | ⟨b, off, rfl, hx⟩
  · exact .inl h
  · by_cases h0 : 0 < n
    · have hlt : b < w.heap.size := World.block_lt_of_cell? w _ (hx 0 h0)
      exact .inr ⟨b, off, rfl, fun k hk => by rw [hb.cell (p := ⟨b, off + k, none⟩) (by show b < B; omega)]; exact hx k hk⟩
    · exact .inl (by omega)
theorem At.ints {g n : Nat} {C : Nat → Int} {w : World} (h : At g n C w) : IntsAt w (some ⟨g, 0, none⟩) n C := .inr ⟨g, 0, rfl, fun k hk => by rw [Nat.zero_add]; exact (h k hk).1⟩

def SameRel (a b : Option Addr) (n : Nat) (R C : Nat → Int) (w : World) (i : Value) (wr : World) : Prop :=
  ∃ k : Nat, k ≤ n ∧ i = .int .i64 k ∧ IntsAt wr a n R ∧ IntsAt wr b n C ∧ Below w.heap.size w wr
theorem same_any (a b : Option Addr) (c1 c2 n : Nat) (R C : Nat → Int) (w : World) (hn : n ≤ 1000) (ha : IntsAt w a n R) (hb : IntsAt w b n C) (he : ∀ k, k < n → R k = C k) :
    Calls Tryd.prog 8 #[.slice a n c1, .slice b n c2] w fun e w' => e = .returned (.bool true) ∧ Below w.heap.size w w' := by
  have ha' := Lib.hid ha
  have hb' := Lib.hid hb
  have he' := Lib.hid he
  clear ha hb he
  go_enter Tryd.func8, Tryd.ntmps8
  go_wp2_with fail
  go_loopw [5] (fun i wr => SameRel a b n R C w i wr) (fun i _ => n - (intOf i).toNat)
  case atStart => exact ⟨0, by omega, rfl, ha'.out, hb'.out, Below.refl _ _⟩
  case round =>
    obtain ⟨k, hk, rfl, hA, hB, hbel⟩ := hrel
    by_cases hlt : k < n
    · have hA' := hA
      have hB' := hB
      rcases hA' with h | ⟨b1, o1, rfl, h1⟩
      · omega
      · rcases hB' with h | ⟨b2, o2, rfl, h2⟩
        · omega
        · have q1 := h1 k hlt
          have q2 := h2 k hlt
          rw [he'.out k hlt] at q1
          have hend := Lib.hid (fun m => show SameRel (some ⟨b1, o1, none⟩) (some ⟨b2, o2, none⟩) n R C w (.int .i64 ((k : Int) + 1)) (World.drewN _ m) from ⟨k + 1, by omega, by go_num, hA.drew, hB.drew, bl_drew' hbel⟩)
          clear h1 h2 hA hB hbel
          go_wp2_with fail
          go_big_quiet (fail)
          go_wp2_with fail
          exact ⟨hend.out _, by simp [intOf]; omega⟩
    · have hbel' := Lib.hid hbel
      clear hA hB hbel
      go_wp2_with fail
      go_ret
      exact ⟨rfl, hbel'.out⟩

/-- a copy: append onto nil of a slice of the call's own -/
theorem wpList_append_copy {P : Program} {w : World} {ops : Array Oper} {rest : List Oper} {o : Oper} {a : Act} {Q : Exit → Act → World → Prop} (hgd : o.guard = none) (s x : Operand) (t : TypeId)
    (ho : o.op = .call { callee := .builtin .append, args := #[s, x], argTypes := #[t, t] })
    (e : TypeId) (i : TypeInfo) (z : Value) (bytes : Nat) (ht : P.underlying t = some (.slice e)) (hi : P.info? e = some i) (hz : i.zero = some z)
    (hsize : i.size = 1) (hby : i.bytes = bytes) (hzs : z.cells.size = 1)
    (hs : a.eval s = .slice none 0 0) (B n : Nat) (v : Value) (L : List Value) (hx : a.eval x = v) (hown : w.ownsRow B e 1 v n L) (h1 : ∀ u ∈ L, u.oneCell' = true)
    (h63 : n ≤ maxLen) (hbytes : n * bytes ≤ 140737488355328)
    (h : ∀ v' w', w'.ownsRow w.heap.size e 1 v' n L → Below w.heap.size w w' → wpList P ops Q rest (a.put o.dst v') w') : wpList P ops Q (o :: rest) a w := by
  rcases hown.2 with ⟨rfl, h0⟩ | ⟨g, cap, cur, rfl, hb⟩
  · subst h0
    obtain rfl : L = [] := List.eq_nil_of_length_eq_zero (by simpa using hown.1)
    exact wpList_append_own_none hgd s x t ho w.heap.size e i 1 ht hi (.slice none 0 0) 0 [] hs (World.ownsRow_nil _ _ _ _) hx (h _ _ (World.ownsRow_nil _ _ _ _) (Below.refl _ _))
  · refine wpList_append_own w hgd s x t ho w.heap.size e i z 1 bytes ht hi hz hsize hby hzs (by decide) (.slice none 0 0) 0 [] hs (World.ownsRow_nil _ _ _ _) ⟨g, 0, none⟩ n cap L hx hown.1 (hown.cells rfl) h1 (by omega) (by rw [Nat.zero_add]; exact hbytes) (Nat.le_refl _) ?_
    intro v' w' hv hg _
    rw [Nat.zero_add, List.nil_append] at hv
    exact h v' w' hv ((Below.refl _ w).grown hg (Nat.le_refl _) (fun _ h => by cases h))
/-- the first c, as cells -/
def rl (R : Nat → Int) (c : Nat) : List Value := (List.range c).map fun p => .int .i64 (R p)
theorem rl_succ (R : Nat → Int) (c : Nat) : rl R (c + 1) = rl R c ++ [.int .i64 (R c)] := by simp [rl, List.range_succ]
theorem own_ints {w : World} {B n : Nat} {e : TypeId} {v : Value} {R : Nat → Int} (h : w.ownsRow B e 1 v n (rl R n)) : ∃ a cap, v = .slice a n cap ∧ IntsAt w a n R := by
  have h' := h
  rcases h.2 with ⟨rfl, h0⟩ | ⟨g, cap, cur, rfl, _⟩
  · exact ⟨none, 0, by rw [h0], .inl h0⟩
  · refine ⟨_, cap, rfl, .inr ⟨g, 0, rfl, fun k hk => ?_⟩⟩
    rw [Nat.zero_add, h'.cellAt k (by omega)]
    simp [rl, hk]
end Go.Proofs.YtdnemlanahlnpaaDoor
