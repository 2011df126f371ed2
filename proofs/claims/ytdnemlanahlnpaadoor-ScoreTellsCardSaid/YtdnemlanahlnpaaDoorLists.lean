/-
  Slices that come in, and slices that the call makes.
-/
import Derived.Test.YtdnemlanahlnpaaDoorLaw
import Derived.Test.YtdnemlanahlnpaaDoorMean
namespace Go.Proofs.YtdnemlanahlnpaaDoor
open Go.ChangeShapes Go.WideShapes Go.ChangeAt Go.RowKit Fl

/-- the k-th of them -/
def zi (zs : List Int) (k : Nat) : Int := zs.getD k 0
/-- a slice value that holds these integers -/
def ISlice (k : IntKind) (w : World) (v : Value) (zs : List Int) : Prop :=
  (∃ a cap, v = .slice a 0 cap ∧ zs = []) ∨ (0 < zs.length ∧ ∃ b off cap, v = .slice (some ⟨b, off, none⟩) zs.length cap ∧ zs.length ≤ cap ∧ cap ≤ maxLen ∧ b < w.heap.size ∧
    (∀ j, j < zs.length → w.cell? ⟨b, off + j, none⟩ = some (.int k (zi zs j))) ∧ ∀ n ∈ zs, (Lit.int k n).wf = true)

theorem open_list {H : Type} {enc : TypeId × Value → H} {P : Program} {W : World} {t e : TypeId} {k : IntKind} {base : Nat} {v : Value} {d : DataW H} {ps : List MemPlace} (ht : P.underlying t = some (.slice e)) (he : P.underlying e = some (.int k)) (hc : P.cellsOf e = 1)
    (hval : Value.okWide P W .any base t v) (h : DataW.Trod enc P W 0 (fun _ => true) true t v d ps) (hlt : ∀ x ∈ ps, x.block < W.heap.size) : ∃ zs, ISlice k W v zs := by
  obtain ⟨a0, len, cap, rfl⟩ := okWide_slice ht hval
  obtain ⟨fuel, hf⟩ := h
  rcases open_ints ht he hc hf with ⟨hcs, _⟩ | ⟨a, len', cap', zs, hcs, _, hl, hm, hz, hx, hcell, hwz⟩
  · simp [Value.cells] at hcs
    obtain ⟨rfl, rfl, rfl⟩ := hcs
    exact ⟨[], .inl ⟨none, 0, rfl, rfl⟩⟩
  · simp [Value.cells] at hcs
    obtain ⟨rfl, rfl, rfl⟩ := hcs
    simp only [if_true] at hz
    simp only [Prod.mk.injEq] at hx
    obtain ⟨rfl, rfl⟩ := hx
    by_cases h0 : len = 0
    · subst h0
      exact ⟨[], .inl ⟨_, _, rfl, rfl⟩⟩
    · obtain ⟨b, off, rfl, hat⟩ := ints_at hcell (by omega)
      have hb : b < W.heap.size := hlt (.cell b off) (MemPlace.mem_row.2 ⟨0, by omega, by simp⟩)
      have hlen : (zs.take len).length = len := by rw [List.length_take]; omega
      refine ⟨zs.take len, .inr ⟨by omega, b, off, cap, by rw [hlen], by omega, hm, hb, fun j hj => ?_, fun n hn => hwz n (List.mem_of_mem_take hn)⟩⟩
      rw [hat j (by omega)]
      have e : zi (zs.take len) j = zs.getD j 0 := by
        have : j < len := by omega
        simp [zi, List.getD, List.getElem?_take, this]
      rw [e]

/-- what the call's own appends made, as a slice of floats -/
theorem own_floats {w : World} {base n : Nat} {v : Value} {L : List Nat} (h : w.ownsRow base 27 1 v n (L.map (Value.float .f64))) (hf : ∀ x ∈ L, Fits x) : FSlice w v L := by
  obtain ⟨hl, hcase⟩ := h
  have hn : L.length = n := by simpa using hl
  rcases hcase with ⟨rfl, h0⟩ | ⟨g, cap, cur, rfl, _, hh, hc, hm, hsz, ht⟩
  · left
    exact ⟨rfl, List.eq_nil_of_length_eq_zero (by omega)⟩
  · right
    refine ⟨g, 0, cap, by rw [hn], by omega, hm, ⟨fun k hk => ?_, fun k hk => ?_⟩⟩
    · have h1 : cur[k]? = some (.float .f64 (fl L k)) := by
        have h2 : (cur.toList.take (n * 1))[k]? = (L.map (Value.float .f64))[k]? := by rw [ht]
        rw [List.getElem?_take, if_pos (by omega), List.getElem?_map, List.getElem?_eq_getElem hk] at h2
        rw [← Array.getElem?_toList, h2]
        simp [fl, List.getD, List.getElem?_eq_getElem hk]
      simp [World.cell?, hh, h1]
    · have : fl L k = L[k] := by simp [fl, List.getD, List.getElem?_eq_getElem hk]
      rw [this]
      exact hf _ (List.getElem_mem hk)

theorem Tryd.infoF : (Tryd.prog.info? 27).map (fun i => (i.zero, i.size, i.bytes)) = some (some (.float .f64 0), 1, 8) := by kernel_rfl
/-- what 'append' of one element reads: a new block of one cell -/
theorem one_new (w : World) (x : Value) (t : TypeId) : ∀ j u, [x][j]? = some u → (w.alloc (.cells #[x] t)).cell? ((⟨w.heap.size, 0, none⟩ : Addr).add j) = some u := by
  intro j u hj
  match j, hj with
  | 0, hj =>
    simp only [List.getElem?_cons_zero, Option.some.injEq] at hj
    subst hj
    simp [Addr.add]
/-- a block of the call's own: at or above the heap's size when the call began -/
theorem own_ge {w wr : World} {e : TypeId} {n : Nat} {v : Value} {xs : List Value} (h : wr.ownsRow w.heap.size e 1 v n xs) : ∀ k, v.ownBlock = some k → w.heap.size ≤ k := fun k hk => (h.lt k hk).1
theorem app_below {w wr w1 : World} {o : Obj} {row : Option Nat} (hb : Below w.heap.size w wr) (hg : (wr.alloc o).grownBy w1 row) (hr : ∀ k, row = some k → w.heap.size ≤ k) : Below w.heap.size w w1 :=
  (hb.alloc hb.size o).grown hg (by have := hb.size; show w.heap.size ≤ (wr.heap.push o).size; rw [Array.size_push]; omega) hr
/-- an append to one slice of the call's own leaves another one as it was, and they stay apart -/
theorem apart_app {B ny : Nat} {e : TypeId} {wr w1 : World} {o : Obj} {u y v1 : Value} {L : List Value} (hoy : wr.ownsRow B e 1 y ny L) (hap : u.ownBlock = none ∨ u.ownBlock ≠ y.ownBlock) (hg : (wr.alloc o).grownBy w1 u.ownBlock)
    (hat : v1.ownBlock = u.ownBlock ∨ v1.ownBlock = some (wr.heap.size + 1)) : w1.ownsRow B e 1 y ny L ∧ (v1.ownBlock = none ∨ v1.ownBlock ≠ y.ownBlock) := by
  have hne : y.ownBlock = none ∨ y.ownBlock ≠ u.ownBlock := by
    rcases hap with h | h
    · rw [h]
      cases y.ownBlock with
      | none => exact .inl rfl
      | some k => exact .inr (fun h => by cases h)
    · exact .inr (fun h' => h h'.symm)
  refine ⟨(hoy.alloc o).kept hg hne, ?_⟩
  rcases hat with h | h
  · rw [h]; exact hap
  · right
    rw [h]
    intro h'
    have h1 := (hoy.lt _ h'.symm).2
    omega
theorem grown_of_below {w w1 : World} (h : Below w.heap.size w w1) : w.grownBy w1 none := ⟨h.os, h.tape, h.output, h.size, fun k hk _ => h.block k hk⟩
theorem own_below {B n : Nat} {e : TypeId} {w w1 : World} {v : Value} {L : List Value} (ho : w.ownsRow B e 1 v n L) (h : Below w.heap.size w w1) : w1.ownsRow B e 1 v n L :=
  ho.kept (grown_of_below h) (by cases v.ownBlock with
    | none => exact .inl rfl
    | some k => exact .inr (fun h => by cases h))

/-- an append under a guard that says yes -/
theorem wpList_append_want {P : Program} {w : World} {ops : Array Oper} {rest : List Oper} {o : Oper} {a : Act} {Q : Exit → Act → World → Prop} (hw : Region.wanted o (yielded ops a.tmps) = true) (s x : Operand) (t : TypeId)
    (ho : o.op = .call { callee := .builtin .append, args := #[s, x], argTypes := #[t, t] })
    (base : Nat) (e : TypeId) (i : TypeInfo) (z : Value) (size bytes : Nat) (ht : P.underlying t = some (.slice e)) (hi : P.info? e = some i) (hz : i.zero = some z)
    (hsize : i.size = size) (hby : i.bytes = bytes) (hzs : z.cells.size = size) (hsz : 0 < size)
    (v : Value) (n : Nat) (xs : List Value) (hs : a.eval s = v) (hown : w.ownsRow base e size v n xs)
    (ad : Addr) (m c : Nat) (news : List Value) (hx : a.eval x = .slice (some ad) m c) (hl : news.length = m * size) (hnews : ∀ j u, news[j]? = some u → w.cell? (ad.add j) = some u) (h1 : ∀ u ∈ news, u.oneCell' = true)
    (h63 : n + m ≤ maxLen) (hbytes : (n + m) * bytes ≤ 140737488355328) (hbase : base ≤ w.heap.size)
    (h : ∀ v' w', w'.ownsRow base e size v' (n + m) (xs ++ news) → w.grownBy w' v.ownBlock → wpList P ops Q rest (a.put o.dst v') w') : wpList P ops Q (o :: rest) a w :=
  BigFrame.wpList_want hw fun _ hK => wp_append_own w s x t ho base e i z size bytes ht hi hz hsize hby hzs hsz v n xs hs hown ad m c news hx hl hnews h1 h63 hbytes hbase fun v' w' h2 h3 _ => hK _ _ (h v' w' h2 h3)
end Go.Proofs.YtdnemlanahlnpaaDoor
