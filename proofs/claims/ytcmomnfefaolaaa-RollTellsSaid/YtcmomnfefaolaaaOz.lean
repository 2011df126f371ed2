/-
  Numbers in a slice of one's own: appended, sorted, made single.
-/
import Derived.Test.YtcmomnfefaolaaaIt
import Derived.Test.YtcmomnfefaolaaaGr
import Derived.Test.YtcmomnfefaolaaaShelf
import Derived.Sort.OwnSortedInts
import Derived.Maps.AppendAt
namespace Go.Proofs.Ytcmomnfefaolaaa
open Go.RowKit BigFrame
set_option maxRecDepth 100000
section
variable {w w' wr : World} {W B a M : Nat}
def nv (l : List Nat) : List Value := l.map fun (x : Nat) => .int .i64 (x : Int)
theorem nv_len (l : List Nat) : (nv l).length = l.length := by simp [nv]
theorem nv_one (l : List Nat) : ∀ v ∈ nv l, v.oneCell' = true := by
  intro v hv
  obtain ⟨k, _, rfl⟩ := List.mem_map.1 hv
  rfl
/-- numbers of one's own -/
def OwnZ (w : World) (B : Nat) (v : Value) (l : List Nat) : Prop := w.ownsRow B 3 1 v l.length (nv l)
theorem OwnZ.nil (w : World) (B : Nat) : OwnZ w B (.slice none 0 0) [] := World.ownsRow_nil _ _ _ _
theorem OwnZ.blk {v : Value} {l : List Nat} (h : OwnZ w B v l) (e : ∀ k, v.ownBlock = some k → w'.heap[k]? = w.heap[k]?) : OwnZ w' B v l := by
  obtain ⟨h1, h2⟩ := h
  refine ⟨h1, ?_⟩
  rcases h2 with h2 | ⟨g, cap, cur, rfl, hb, hg, r⟩
  · exact .inl h2
  · exact .inr ⟨g, cap, cur, rfl, hb, (e g rfl).trans hg, r⟩
theorem OwnZ.block {v : Value} {l : List Nat} (h : OwnZ w B v l) : ∀ k, v.ownBlock = some k → B ≤ k ∧ k < w.heap.size := fun k hk => World.ownsRow.lt h k hk
theorem OwnZ.on {v : Value} {l : List Nat} (h : OwnZ w B v l) (hb : Below w.heap.size w w') : OwnZ w' B v l := h.blk fun k hk => hb.block k (h.block k hk).2
theorem OwnZ.alloc {v : Value} {l : List Nat} (h : OwnZ w B v l) (x : Obj) : OwnZ (w.alloc x) B v l := World.ownsRow.alloc h x
theorem OwnZ.lower {v : Value} {l : List Nat} {B' : Nat} (h : OwnZ w B v l) (hb : B' ≤ B) : OwnZ w B' v l := by
  obtain ⟨h1, h2⟩ := h
  refine ⟨h1, ?_⟩
  rcases h2 with h2 | ⟨g, cap, cur, e, hg, rest⟩
  · exact .inl h2
  · exact .inr ⟨g, cap, cur, e, Nat.le_trans hb hg, rest⟩
theorem OwnZ.ints {v : Value} {l : List Nat} (h : OwnZ w B v l) : ∃ a cap, v = .slice a l.length cap ∧ (a = none → cap = 0) ∧ IntsAt w a l.length (fun k => ((l.getD k 0 : Nat) : Int)) := by
  have h' := h
  rcases h.2 with ⟨rfl, h0⟩ | ⟨g, cap, cur, rfl, _⟩
  · exact ⟨none, 0, by rw [h0], fun _ => rfl, .inl h0⟩
  · refine ⟨_, cap, rfl, (fun h => by cases h), .inr ⟨g, 0, rfl, fun k hk => ?_⟩⟩
    rw [Nat.zero_add, World.ownsRow.cellAt h' k (by omega)]
    simp [nv, hk, List.getD]
theorem nat_new (w : World) (x : Int) : (w.alloc (.cells #[.int .i64 x] 3)).cell? ⟨w.heap.size, 0, none⟩ = some (.int .i64 x) := by
  rw [cell_of_row _ w.heap.size _ _ _ _ (heap_alloc_new w _)]; rfl
theorem wpList_append_nat {w : World} {ops : Array Oper} {rest : List Oper} {o : Oper} {a : Act} {Q : Exit → Act → World → Prop} (hgd : o.guard = none) (s x : Operand)
    (ho : o.op = .call { callee := .builtin .append, args := #[s, x], argTypes := #[24, 24] })
    (B : Nat) (v : Value) (L : List Nat) (hs : a.eval s = v) (hown : OwnZ w B v L) (ad : Addr) (cap : Nat) (y : Nat) (hx : a.eval x = .slice (some ad) 1 cap) (hsrc : w.cell? ad = some (.int .i64 (y : Int)))
    (hlen : L.length + 1 ≤ 1000000) (hbase : B ≤ w.heap.size)
    (h : ∀ v' w', Hid (OwnZ w' B v' (L ++ [y])) → Hid (w.grownBy w' v.ownBlock) → Hid (v'.ownBlock = v.ownBlock ∨ v'.ownBlock = some w.heap.size) → wpList Try.prog ops Q rest (a.put o.dst v') w') : wpList Try.prog ops Q (o :: rest) a w := by
  obtain ⟨i, hi, hz0, hz1, hz2⟩ := info_parts Try.infoI
  refine wpList_append_own_at w hgd s x 24 ho B 3 i (.int .i64 0) 1 8 Try.underlying24 hi hz0 hz1 hz2 rfl (by decide) v L.length (nv L) hs hown ad 1 cap (nv [y]) hx (by rw [nv_len]; rfl) ?_ (nv_one [y]) (by unfold maxLen; omega) (by omega) hbase ?_
  · intro j u hu
    have hj : j = 0 := by
      have := (List.getElem?_eq_some_iff.1 hu).1
      rw [nv_len] at this
      simp at this
      omega
    subst hj
    have hadd : ad.add 0 = ad := by unfold Addr.add; split <;> simp_all
    rw [hadd, hsrc]
    simpa [nv] using hu
  · intro v' w' h1 h2 _ h4
    refine h v' w' ?_ h2 h4
    show OwnZ w' B v' (L ++ [y])
    unfold OwnZ
    have e : nv (L ++ [y]) = nv L ++ nv [y] := by simp [nv]
    rw [e, List.length_append]; exact h1
/-- rising -/
def srt (l : List Nat) : List Nat := l.mergeSort fun x y => decide (x ≤ y)
theorem srt_perm (l : List Nat) : (srt l).Perm l := List.mergeSort_perm _ _
theorem srt_mem {l : List Nat} {x : Nat} : x ∈ srt l ↔ x ∈ l := (srt_perm l).mem_iff
theorem srt_len (l : List Nat) : (srt l).length = l.length := (srt_perm l).length_eq
theorem srt_int (l : List Nat) : ((l.map fun (x : Nat) => (x : Int)).mergeSort fun x y => decide (x ≤ y)) = (srt l).map fun (x : Nat) => (x : Int) := by
  unfold srt
  rw [List.map_mergeSort]
  intro a _ b _
  exact decide_eq_decide.2 (by omega)
theorem sort_c {v : Value} {l : List Nat} (h : OwnZ w B v l) (hl : l.length ≤ 1000000) :
    Calls Try.prog 28 #[v] w fun e w' => e = .returned (.tuple #[]) ∧ OwnZ w' B v (srt l) ∧ w.grownBy w' v.ownBlock := by
  have h' := h
  rcases h.2 with ⟨rfl, h0⟩ | ⟨g, cap, cur, rfl, hb, hg, hn, hm, hs, ht⟩
  · have hl0 := List.eq_nil_of_length_eq_zero h0
    subst hl0
    refine (Try.slices_Sort_int_none none 0 w).mono fun e w' ⟨he, hw⟩ => ?_
    subst hw
    exact ⟨he, by rw [show srt [] = [] by simp [srt]]; exact h', World.grownBy.refl _ _⟩
  · have e1 : (l.map fun (x : Nat) => (x : Int)).length = l.length := by simp
    have e2 : (l.map fun (x : Nat) => (x : Int)).map (Value.int .i64) = nv l := by simp [nv]
    have hH : Sort.Holds (Value.int .i64) w g 0 (l.map fun (x : Nat) => (x : Int)).toArray := holds_of_blockI hg (by rw [e1, e2]; simpa using ht)
    have hc := Try.slices_Sort_int g 0 cap (l.map fun (x : Nat) => (x : Int)) w hH (Array.getElem?_eq_some_iff.1 hg).1 (by rw [e1]; omega)
    rw [e1] at hc
    refine hc.mono fun e w' ⟨he, n, os, hw⟩ => ?_
    subst hw
    rw [srt_int]
    have e3 : ((srt l).map fun (x : Nat) => (x : Int)).length = (l.map fun (x : Nat) => (x : Int)).length := by simp [srt_len]
    have e4 : ((srt l).map fun (x : Nat) => (x : Int)).map (Value.int .i64) = nv (srt l) := by simp [nv]
    have ho := ownsRow_sortedI (n := n) (os := os) e3 hb hg (by rw [e1]; exact hn) hm hs
    rw [e1, e4] at ho
    refine ⟨he, ?_, grownBy_sortedI _⟩
    unfold OwnZ
    rw [srt_len]
    exact ho
/-- a slice's first cells -/
theorem ownsRow_cut {w : World} {B : Nat} {e : TypeId} {g n cap k : Nat} {xs : List Value} (h : w.ownsRow B e 1 (.slice (some ⟨g, 0, none⟩) n cap) n xs) (hk : k ≤ n) : w.ownsRow B e 1 (.slice (some ⟨g, 0, none⟩) k cap) k (xs.take k) := by
  obtain ⟨h1, h2⟩ := h
  refine ⟨by rw [List.length_take]; omega, ?_⟩
  rcases h2 with ⟨e1, _⟩ | ⟨g1, cap1, cur, e1, hb, hg, hn, hm, hs, ht⟩
  · cases e1
  · cases e1
    refine .inr ⟨g, cap, cur, rfl, hb, hg, by omega, hm, hs, ?_⟩
    rw [← ht, List.take_take]
    congr 1
    omega
theorem compact_mem (d : Array Int) : ∀ m, m ≤ d.size → (∀ j, j < m → d[j]! ∈ Lib.compactUpTo d m) ∧ ∀ z ∈ Lib.compactUpTo d m, ∃ j, j < m ∧ z = d[j]!
  | 0, _ => ⟨fun j h => by omega, fun z hz => by simp [Lib.compactUpTo] at hz⟩
  | m + 1, h => by
    obtain ⟨h1, h2⟩ := compact_mem d m (by omega)
    rw [Lib.compactUpTo_succ]
    refine ⟨fun j hj => ?_, fun z hz => ?_⟩
    · rcases Nat.lt_succ_iff_lt_or_eq.1 hj with e | e
      · exact List.mem_append.2 (.inl (h1 j e))
      · subst e
        by_cases hk : Lib.keeps d j = true
        · rw [if_pos hk]; exact List.mem_append.2 (.inr (List.mem_singleton.2 rfl))
        · have hk' : ¬ (j = 0 ∨ d[j]! ≠ d[j - 1]!) := by simpa [Lib.keeps] using hk
          have e0 : j ≠ 0 := fun e => hk' (.inl e)
          have e1 : d[j]! = d[j - 1]! := Classical.not_not.1 fun e => hk' (.inr e)
          rw [e1]
          exact List.mem_append.2 (.inl (h1 (j - 1) (by omega)))
    · rcases List.mem_append.1 hz with hz | hz
      · obtain ⟨j, hj, e⟩ := h2 z hz
        exact ⟨j, by omega, e⟩
      · by_cases hk : Lib.keeps d m = true
        · rw [if_pos hk] at hz
          exact ⟨m, by omega, List.mem_singleton.1 hz⟩
        · rw [if_neg hk] at hz; cases hz
theorem compact_lt (d : Array Int) (hs : ∀ i j, i < j → j < d.size → d[i]! ≤ d[j]!) : ∀ m, m ≤ d.size → (Lib.compactUpTo d m).Pairwise (· < ·)
  | 0, _ => by simp [Lib.compactUpTo]
  | m + 1, h => by
    rw [Lib.compactUpTo_succ]
    by_cases hk : Lib.keeps d m = true
    · rw [if_pos hk, List.pairwise_append]
      refine ⟨compact_lt d hs m (by omega), List.pairwise_singleton _ _, fun x hx y hy => ?_⟩
      obtain rfl := List.mem_singleton.1 hy
      obtain ⟨j, hj, rfl⟩ := (compact_mem d m (by omega)).2 x hx
      have hk' : m = 0 ∨ d[m]! ≠ d[m - 1]! := by simpa [Lib.keeps] using hk
      rcases hk' with e | e
      · omega
      · have h1 : d[m - 1]! ≤ d[m]! := hs (m - 1) m (by omega) (by omega)
        have h2 : d[j]! ≤ d[m - 1]! := by
          by_cases e2 : j = m - 1
          · rw [e2]; exact Int.le_refl _
          · exact hs j (m - 1) (by omega) (by omega)
        omega
    · rw [if_neg hk, List.append_nil]
      exact compact_lt d hs m (by omega)
theorem compact_len (d : Array Int) : ∀ m, (Lib.compactUpTo d m).length ≤ m := fun m => by
  unfold Lib.compactUpTo
  rw [List.length_map]
  exact Nat.le_trans (List.length_filter_le _ _) (by simp)
/-- each once -/
structure Uniq (l Z : List Nat) : Prop where
  lt : Z.Pairwise (· < ·)
  mem : ∀ z, z ∈ Z ↔ z ∈ l
theorem lt_uniq : ∀ {P Q : List Nat}, P.Pairwise (· < ·) → Q.Pairwise (· < ·) → (∀ x, x ∈ P ↔ x ∈ Q) → P = Q
  | [], [], _, _, _ => rfl
  | [], y :: _, _, _, h => absurd ((h y).2 List.mem_cons_self) (by simp)
  | x :: _, [], _, _, h => absurd ((h x).1 List.mem_cons_self) (by simp)
  | x :: P, y :: Q, hp, hq, h => by
    obtain ⟨p1, p2⟩ := List.pairwise_cons.1 hp
    obtain ⟨q1, q2⟩ := List.pairwise_cons.1 hq
    have hxy : x = y := by
      rcases List.mem_cons.1 ((h x).1 List.mem_cons_self) with e | e
      · exact e
      · rcases List.mem_cons.1 ((h y).2 List.mem_cons_self) with e2 | e2
        · exact e2.symm
        · have := q1 x e; have := p1 y e2; omega
    subst hxy
    congr 1
    refine lt_uniq p2 q2 fun z => ⟨fun hz => ?_, fun hz => ?_⟩
    · rcases List.mem_cons.1 ((h z).1 (List.mem_cons_of_mem _ hz)) with e | e
      · have := p1 z hz; omega
      · exact e
    · rcases List.mem_cons.1 ((h z).2 (List.mem_cons_of_mem _ hz)) with e | e
      · have := q1 z hz; omega
      · exact e
theorem compact_c {v : Value} {l : List Nat} (h : OwnZ w B v l) (hl : l.length ≤ 1000000) (hs : l.Pairwise (· ≤ ·)) :
    Calls Try.prog 29 #[v] w fun e w' => ∃ v' Z, e = .returned v' ∧ OwnZ w' B v' Z ∧ Uniq l Z ∧ w.grownBy w' v.ownBlock := by
  have h' := h
  rcases h.2 with ⟨rfl, h0⟩ | ⟨g, cap, cur, rfl, hb, hg, hn, hm, hcs, ht⟩
  · have hl0 := List.eq_nil_of_length_eq_zero h0
    subst hl0
    refine (Try.slices_Compact_int_empty none 0 w).mono fun e w' ⟨he, hw⟩ => ?_
    subst hw
    exact ⟨_, [], he, h', ⟨List.Pairwise.nil, fun z => Iff.rfl⟩, World.grownBy.refl _ _⟩
  · obtain ⟨zs, hz⟩ : ∃ zs, (l.map fun (x : Nat) => (x : Int)) = zs := ⟨_, rfl⟩
    have e1 : zs.length = l.length := by rw [← hz]; simp
    have e2 : zs.map (Value.int .i64) = nv l := by rw [← hz]; simp [nv]
    have hH : Sort.Holds (Value.int .i64) w g 0 zs.toArray := holds_of_blockI hg (by rw [e1, e2]; simpa using ht)
    have hc := Try.slices_Compact_int g 0 cap zs w hH (by omega) (by omega)
    rw [e1] at hc
    refine hc.mono fun e w' ⟨he, q, hw⟩ => ?_
    subst hw
    have hget : ∀ j, j < zs.toArray.size → zs.toArray[j]! = ((l.getD j 0 : Nat) : Int) := fun j hj => by
      have hj' : j < l.length := by simpa [e1] using hj
      have e3 : zs[j]? = some ((l[j] : Nat) : Int) := by rw [← hz]; simp [hj']
      simp [List.getD, hj', e3]
    have hsort : ∀ i j, i < j → j < zs.toArray.size → zs.toArray[i]! ≤ zs.toArray[j]! := fun i j hij hj => by
      have hj' : j < l.length := by simpa [e1] using hj
      rw [hget i (by omega), hget j hj]
      have := List.pairwise_iff_getElem.1 hs i j (by omega) hj' hij
      simp only [List.getD, List.getElem?_eq_getElem hj', List.getElem?_eq_getElem (show i < l.length by omega), Option.getD_some]
      omega
    have hsz : zs.toArray.size = zs.length := by simp
    obtain ⟨c, hcE⟩ : ∃ c, Lib.compact zs = c := ⟨_, rfl⟩
    have hcl : c.length ≤ zs.length := by rw [← hcE]; exact compact_len _ _
    have hmem := compact_mem zs.toArray zs.length (by rw [hsz]; exact Nat.le_refl _)
    have hlt := compact_lt zs.toArray hsort zs.length (by rw [hsz]; exact Nat.le_refl _)
    rw [show Lib.compactUpTo zs.toArray zs.length = c from hcE] at hmem hlt
    -- as numbers
    have hnat : ∀ z ∈ c, ∃ y : Nat, z = (y : Int) ∧ y ∈ l := fun z hzc => by
      obtain ⟨j, hj, rfl⟩ := hmem.2 z hzc
      have hj' : j < l.length := by omega
      refine ⟨l.getD j 0, hget j (by rw [hsz]; exact hj), ?_⟩
      simp only [List.getD, List.getElem?_eq_getElem hj', Option.getD_some]
      exact List.getElem_mem hj'
    obtain ⟨Z, hZ⟩ : ∃ Z : List Nat, (Z.map fun (x : Nat) => (x : Int)) = c := by
      refine ⟨c.map Int.toNat, ?_⟩
      rw [List.map_map]
      conv => rhs; rw [← List.map_id c]
      refine List.map_congr_left fun z hzc => ?_
      obtain ⟨y, rfl, _⟩ := hnat z hzc
      rfl
    have hZl : Z.length = c.length := by rw [← hZ]; simp
    have e4 : (c ++ List.replicate (l.length - c.length) 0).length = zs.length := by simp; omega
    have ho := ownsRow_sortedI (n := q) (os := #[]) (ts := c ++ List.replicate (l.length - c.length) 0) e4 hb hg (by rw [e1]; exact hn) hm (by simpa using hcs)
    have hcut := ownsRow_cut (k := c.length) ho (by omega)
    refine ⟨_, Z, by rw [hcE] at he; exact he, ?_, ⟨?_, fun z => ⟨fun hzz => ?_, fun hzz => ?_⟩⟩, ?_⟩
    · rw [hcE]
      unfold OwnZ
      rw [hZl]
      have e5 : ((c ++ List.replicate (l.length - c.length) 0).map (Value.int .i64)).take c.length = nv Z := by
        rw [List.map_append, List.take_left' (by simp), ← hZ]
        simp [nv]
      rw [e5] at hcut
      exact hcut
    · have hp : (Z.map fun (x : Nat) => (x : Int)).Pairwise (· < ·) := by rw [hZ]; exact hlt
      rw [List.pairwise_map] at hp
      exact hp.imp fun h => by omega
    · have : ((z : Nat) : Int) ∈ c := by rw [← hZ]; exact List.mem_map.2 ⟨z, hzz, rfl⟩
      obtain ⟨y, hy, hyl⟩ := hnat _ this
      have : y = z := by omega
      rw [← this]; exact hyl
    · obtain ⟨j, hj, rfl⟩ := List.mem_iff_getElem.1 hzz
      have h1 := hmem.1 j (by omega)
      rw [hget j (by rw [hsz]; omega)] at h1
      rw [← hZ] at h1
      obtain ⟨y, hy, e⟩ := List.mem_map.1 h1
      simp only [List.getD, List.getElem?_eq_getElem hj, Option.getD_some] at e
      have : y = l[j] := by omega
      rw [← this]; exact hy
    · have := grownBy_sortedI (w := w) (g := g) (n := q) (os := #[]) (c ++ List.replicate (l.length - c.length) 0).toArray
      rw [hcE]
      simp only [Sort.grow] at this
      exact this
theorem OwnZ.ownI {v : Value} {l : List Nat} (h : OwnZ w B v l) : OwnI w B v l.length (fun k => ((l.getD k 0 : Nat) : Int)) := by
  unfold OwnZ at h
  unfold OwnI
  have e : rl (fun k => ((l.getD k 0 : Nat) : Int)) l.length = nv l := by
    apply List.ext_getElem?
    intro k
    by_cases hk : k < l.length
    · rw [rl_get hk]; simp [nv, List.getD, hk]
    · rw [List.getElem?_eq_none (by rw [rl_length]; omega), List.getElem?_eq_none (by rw [nv_len]; omega)]
  rw [e]; exact h
end
end Go.Proofs.Ytcmomnfefaolaaa
