/-
  Load: a disk that has these sectors, firm.
-/
import Derived.Test.YtabjhjipnpfnbaaNw
import Derived.Test.YtabjhjipnpfnbaaRd
import Derived.Test.YtabjhjipnpfnbaaSp
import Derived.Deep.RegionHeld3
import Derived.Deep.LoopGhost
import Derived.Laws.Cover3
namespace Go.Proofs.Ytabjhjipnpfnbaa
open Go.RowKit BigFrame

/-- n sectors, as cells -/
def scells (n : Nat) (f : Nat → List Nat) : List Value := (List.range n).flatMap fun i => bv (f i)
theorem scells_length {n : Nat} {f : Nat → List Nat} (hl : ∀ i, i < n → (f i).length = 128) : (scells n f).length = n * 128 := by
  have := flat_length (fun i => bv (f i)) 128 (List.range n) (fun i hi => by rw [bv_length]; exact hl i (List.mem_range.1 hi))
  rwa [List.length_range] at this
theorem scells_get {n : Nat} {f : Nat → List Nat} (hl : ∀ i, i < n → (f i).length = 128) {i j : Nat} (hi : i < n) (hj : j < 128) : (scells n f)[i * 128 + j]? = (bv (f i))[j]? := by
  have := flat_get (fun i => bv (f i)) 128 (List.range n) (fun i hi => by rw [bv_length]; exact hl i (List.mem_range.1 hi)) i (by simpa using hi) j hj
  simp only [List.getElem_range] at this
  exact this
theorem scells_one (n : Nat) (f : Nat → List Nat) : ∀ v ∈ scells n f, v.oneCell' = true := by
  intro v hv
  obtain ⟨i, _, h⟩ := List.mem_flatMap.1 hv
  exact bv_one _ v h
theorem secs_range {w : World} {g n : Nat} {f : Nat → List Nat} (h : Secs w g n f) (hl : ∀ i, i < n → (f i).length = 128) : w.rangeAt g 0 (scells n f) ∧ w.there g 0 (n * 128) := by
  constructor
  · intro j v hv
    have hj : j < n * 128 := by have := (List.getElem?_eq_some_iff.1 hv).1; rwa [scells_length hl] at this
    have e : j = j / 128 * 128 + j % 128 := by omega
    have hi : j / 128 < n := by omega
    rw [e, scells_get hl hi (by omega)] at hv
    have := (h _ hi).1 _ v hv
    rw [Nat.zero_add, e]; exact this
  · intro j hj
    have e : j = j / 128 * 128 + j % 128 := by omega
    have hi : j / 128 < n := by omega
    have := (h _ hi).2 (j % 128) (by omega)
    rw [Nat.zero_add, e]; exact this
theorem secs_of_range {w : World} {g n : Nat} {f : Nat → List Nat} (h : w.rangeAt g 0 (scells n f)) (ht : w.there g 0 (n * 128)) (hl : ∀ i, i < n → (f i).length = 128) : Secs w g n f := fun i hi => by
  have hb : i * 128 + 128 ≤ n * 128 := by have := Nat.mul_le_mul_right 128 (show i + 1 ≤ n from hi); omega
  refine ⟨fun j v hv => ?_, fun j hj => ?_⟩
  · have hj : j < 128 := by have := (List.getElem?_eq_some_iff.1 hv).1; rwa [bv_length, hl i hi] at this
    have := h (i * 128 + j) v (by rw [scells_get hl hi hj]; exact hv)
    rwa [Nat.zero_add] at this
  · have := ht (i * 128 + j) (by omega)
    rwa [Nat.zero_add] at this
theorem run_copy_secs (w : World) (ty : TypeId) (s f n : Nat) (cs : List Value) (hl : cs.length = n * 128) (hr : w.rangeAt f 0 cs) (ht : w.there s 0 (n * 128)) (h1 : ∀ v ∈ cs, v.oneCell' = true) :
    (Builtin.copy_ #[61, 61] ty #[.slice (some ⟨s, 0, none⟩) n n, .slice (some ⟨f, 0, none⟩) n n]).run Try.prog w = .ok (goInt n) (w.setCells s 0 cs) := by
  obtain ⟨i, hi, hz0, hz1, hz2⟩ := info_parts Try.infoS
  have hld := run_loadCells_list (P := Try.prog) w ⟨f, 0, none⟩ cs (fun j v hv => by rw [addr_add]; exact hr j v hv)
  have hst := run_storeCells_cells (P := Try.prog) s 0 cs 0 w (fun j hj => by simpa using (ht j (by omega)).1) (fun j hj => by simpa using (ht j (by omega)).2) h1
  simp [Builtin.copy_, run_underlying Try.underlying61, Builtin.lenOf, Builtin.firstCells, sizeOf, typeInfo, hi, hz1, ← hl, hld, hst]
theorem step_copy_secs {ops : Array Oper} {o : Oper} {a : Act} {w : World} {K : Act → World → Prop} {Q : Exit → Act → World → Prop} {E : Prop} (hgd : o.guard = none) (x y : Operand)
    (ho : o.op = .call { callee := .builtin .copy, args := #[x, y], argTypes := #[61, 61] }) (s f n : Nat) (cs : List Value) (hx : a.eval x = .slice (some ⟨s, 0, none⟩) n n) (hy : a.eval y = .slice (some ⟨f, 0, none⟩) n n)
    (hl : cs.length = n * 128) (hr : w.rangeAt f 0 cs) (ht : w.there s 0 (n * 128)) (h1 : ∀ v ∈ cs, v.oneCell' = true) (h : K (a.put o.dst (goInt n)) (w.setCells s 0 cs)) :
    if Region.wanted o (yielded ops a.tmps) = true then Oper.wp Try.prog o a w K Q else E := by
  have hw : Region.wanted o (yielded ops a.tmps) = true := by simp [Region.wanted, hgd]
  rw [if_pos hw]
  unfold Oper.wp
  have := run_copy_secs w o.type s f n cs hl hr ht h1
  simp [execOp, ho, resolve, invoke, builtin, hx, hy, this, Result.andThen]
  exact h
theorem IsDkS.copied {w : World} {B G : Nat} {A : Lies} {d : Dk} {sn : Nat → List Nat} (h : IsDkS w B G A d sn) : IsDkS (w.setCells A.s 0 (scells d.n d.firm)) B G A d d.firm := by
  obtain ⟨h1, h2, h3⟩ := h.gf
  have hs := setCells_os A.s (scells d.n d.firm) 0 w
  have hof : ∀ k, k ≠ A.s → (w.setCells A.s 0 (scells d.n d.firm)).heap[k]? = w.heap[k]? := fun k hk => setCells_block _ _ _ _ _ hk
  have ht : w.there A.s 0 (scells d.n d.firm).length := by
    rw [scells_length h.fine.firm]
    intro j hj
    have e : j = j / 128 * 128 + j % 128 := by omega
    have hi : j / 128 < d.n := by omega
    have := (h.seen _ hi).2 (j % 128) (by omega)
    rw [Nat.zero_add, e]; exact this
  refine ⟨h.fine, ?_, ?_, ?_, ?_, ?_, ?_, h.apart, fun k hk => ⟨(h.over k hk).1, by rw [hs.2.2.2]; exact (h.over k hk).2⟩⟩
  · rw [hof _ h2]; exact h.hdr
  · exact h.firm.block (hof _ h3)
  · exact secs_of_range (World.rangeAt_setCells_same _ _ _ _ ht) (by rw [scells_length h.fine.firm] at ht; exact World.there_setCells ht _ _ _) h.fine.firm
  · exact ownsRow_block h.waits (fun k hk => hof k (h.wOff (by simp [hk])).2.2)
  · exact ownsRow_block h.log (fun k hk => hof k (h.wOff (by simp [hk])).2.2)
  · exact ownsRow_block h.keep (fun k hk => hof k (h.wOff (by simp [hk])).2.2)
/-- slices of bytes that lie there, whatever their lengths -/
def Pieces (w : World) (a : Option Addr) (n : Nat) (X : Nat → List Nat) : Prop :=
  n = 0 ∨ ∃ b off, a = some ⟨b, off, none⟩ ∧ ∀ i, i < n → ∃ v, w.cell? ⟨b, off + i, none⟩ = some v ∧ BV w v (X i)
theorem BAt.lt0 {w : World} {a : Option Addr} {l : List Nat} (h : BAt w a l) (h0 : 0 < l.length) : ∃ b off, a = some ⟨b, off, none⟩ ∧ b < w.heap.size ∧ BAt w (some ⟨b, off, none⟩) l := by
  obtain ⟨b, off, rfl⟩ := h.addr h0
  exact ⟨b, off, rfl, World.block_lt_of_cell? w _ (h.cell (k := 0) h0), h⟩
def goodL (n : Nat) (X : Nat → List Nat) (k : Nat) : Bool := decide (0 < n) && (List.range k).all fun i => (X i).length == 128
/-- the image's sectors, and zeros -/
def imgX (X : Nat → List Nat) (k : Nat) (i : Nat) : List Nat := if i < k then X i else zs 128
def LoadPost (n : Nat) (X : Nat → List Nat) (w : World) (e : Ending) (w' : World) : Prop :=
  (goodL n X n = true ∧ GivesD (.fresh n (imgX X n)) w e w') ∨ (goodL n X n = false ∧ e = .returned (.pointer none) ∧ Below w.heap.size w w')
def LdRel (w : World) (G : Nat) (A : Lies) (n : Nat) (X : Nat → List Nat) (g : Nat) (i : Value) (wr : World) : Prop :=
  ∃ k : Nat, k + g = n ∧ i = .int .i64 k ∧ IsDkS wr w.heap.size G A (.fresh n (imgX X k)) (fun _ => zs 128) ∧ Below w.heap.size w wr ∧ ∀ j, j < k → (X j).length = 128
theorem load_none (a : Option Addr) (cap : Nat) (X : Nat → List Nat) (w : World) : Calls Try.prog 23 #[.slice a 0 cap] w (LoadPost 0 X w) := by
  go_enter Try.func23, Try.ntmps23
  go_wp2_with (go_at_call 9; refine (new_none 0 _ (.inl (by omega))).mono ?_; rintro e w1 ⟨rfl, rfl⟩)
  go_ret
  exact .inr ⟨rfl, rfl, Below.refl _ _⟩

set_option maxHeartbeats 2000000 in
theorem load_some (a : Option Addr) (n cap : Nat) (X : Nat → List Nat) (w : World) (h0 : 0 < n) (hn : n ≤ 2048) (hx : Pieces w a n X) : Calls Try.prog 23 #[.slice a n cap] w (LoadPost n X w) := by
  have hx' := Lib.hid hx
  have hsz := Try.sizeS
  have hus := Try.underlying71
  clear hx
  go_enter Try.func23, Try.ntmps23
  go_wp2_with (go_at_call 9; refine (new_some n _ h0 hn).mono ?_; rintro e w1 ⟨G, A, rfl, hD1, hb1⟩; have D1 := Lib.hid hD1; have B1 := Lib.hid hb1; clear hD1 hb1)
  go_loopg [13] n (fun g i wr => LdRel w G A n X g i wr)
  case atStart => exact ⟨0, by omega, rfl, by have := D1.out; exact this, B1.out, fun j h => by omega⟩
  case round =>
    obtain ⟨k, hk, rfl, hD, hB, hX⟩ := hrel
    have D := Lib.hid hD
    have B := Lib.hid hB
    have XX := Lib.hid hX
    clear hD hB hX
    by_cases hlt : k < n
    · obtain ⟨g, rfl⟩ : ∃ g, gk = g + 1 := ⟨gk - 1, by omega⟩
      obtain ⟨b, off, rfl, v, hv, hbv⟩ : ∃ b off, a = some ⟨b, off, none⟩ ∧ ∃ v, w.cell? ⟨b, off + k, none⟩ = some v ∧ BV w v (X k) := by
        rcases hx'.out with h | ⟨b, off, e, h⟩
        · omega
        · exact ⟨b, off, e, h k hlt⟩
      obtain ⟨ba, bn, bc, rfl, hbn, hba⟩ := hbv
      have hcell : wr.cell? ⟨b, off + k, none⟩ = some (.slice ba bn bc) := by rw [B.out.cell (p := ⟨b, off + k, none⟩) (World.block_lt_of_cell? w _ hv)]; exact hv
      clear hv
      by_cases hg : bn = 128
      · subst hg
        obtain ⟨bb, bo, rfl, hblt, hba2⟩ := hba.lt0 (by omega)
        have c1 := D.out.cell 1
        simp only [hcells, Dk.fresh, List.getElem?_toArray, List.getElem?_cons_zero, List.getElem?_cons_succ] at c1
        have hbn' := Lib.hid hbn
        obtain ⟨cs, hcs⟩ : ∃ cs, bv (X k) = cs := ⟨_, rfl⟩
        have hcs' := Lib.hid hcs
        have hcl : cs.length = 128 := by rw [← hcs, bv_length, hbn]
        have hc1 : ∀ v ∈ cs, v.oneCell' = true := by rw [← hcs]; exact bv_one (X k)
        have hci : (Try.prog.info? 71).map (·.size) = some cs.length := by rw [hcl]; exact hsz
        have hi0 : (0 : Int) ≤ (k : Int) := by omega
        have hi1 : (k : Int) < (n : Int) := by omega
        have harr : ∀ w, (Instr.arrayAt 71 (.slice (some ⟨bb, bo, none⟩) 128 bc)).run Try.prog w = .ok (.pointer (some ⟨bb, bo, none⟩)) w := fun w => by apply run_arrayAt; exact hus; omega
        have k2 : wr.rangeAt bb bo cs := by
          rw [← hcs]
          refine rangeAt_block (w := w) (fun j v hv => ?_) (B.out.block bb hblt)
          obtain ⟨hj, rfl⟩ := bv_at hv
          exact hba2.cell hj
        have k3 : wr.there A.f (k * 128) 128 := (D.out.firm k hlt).2
        have hov := fun j hj => (D.out.over j hj).1
        have hne2 : bb ≠ A.f := by have := hov A.f (mem_foot_f G A); omega
        have hne3 : G ≠ A.f := D.out.gf.1
        clear hba hba2 hbn hcs hov
        go_wp2_with fail
        go_region_held3 (fun w' => w'.cell? ⟨G, 1, none⟩ = some (.slice (some ⟨A.f, 0, none⟩) n n) ∧ w'.rangeAt bb bo cs ∧ w'.there A.f (k * 128) 128) (first | exact ⟨cell_drew1 c1, range_drew1 k2, there_drew1 k3⟩ | exact ⟨cell_far (cell_drew1 c1) hne3, World.rangeAt_setCells_apart (range_drew1 k2) _ _ _ (.inl hne2), World.there_setCells (there_drew1 k3) _ _ _⟩) (fail)
        go_wp2_with fail
        go_roundg g
        case measure => omega
        case rel =>
          refine ⟨k + 1, by omega, by go_num, ?_, ?_, fun j hj => ?_⟩
          · have := (D.out.drew1).storeF (a := k) (b := X k) hlt hbn'.out (imgX X (k + 1)) (fun i _ => by
              show (if i < k + 1 then X i else zs 128) = (if i = k then X k else if i < k then X i else zs 128)
              by_cases e : i = k
              · subst e; rw [if_pos (by omega), if_pos rfl]
              · rw [if_neg e]
                by_cases e2 : i < k
                · rw [if_pos e2, if_pos (by omega)]
                · rw [if_neg e2, if_neg (by omega)])
            rw [hcs'.out] at this
            exact this
          · have hs := setCells_os A.f cs (k * 128) wr.drew
            have hb := (D.out.over A.f (mem_foot_f G A)).1
            exact B.out.trans ⟨hs.1, hs.2.1, hs.2.2.1, by rw [hs.2.2.2]; exact Nat.le_refl _, fun j hj => setCells_block _ _ _ _ _ (by omega)⟩
          · by_cases e : j = k
            · subst e; exact hbn'.out
            · exact XX.out j (by omega)
      · have t : ((bn : Int) != 128) = true := by rw [bne_iff_ne]; omega
        have hbad := Lib.hid (show goodL n X n = false by
          unfold goodL
          rw [Bool.and_eq_false_iff]
          right
          rw [List.all_eq_false]
          exact ⟨k, List.mem_range.2 hlt, by simp [hbn, hg]⟩)
        clear hba hbn
        go_wp2_with fail
        go_ret
        exact .inr ⟨hbad.out, rfl, B.out⟩
    · obtain rfl : k = n := by omega
      have hgood := Lib.hid (show goodL k X k = true by
        unfold goodL
        rw [Bool.and_eq_true]
        exact ⟨by simpa using h0, by rw [List.all_eq_true]; exact fun i hi => by simpa using XX.out i (List.mem_range.1 hi)⟩)
      have c1 := D.out.cell 1
      have c2 := D.out.cell 2
      simp only [hcells, Dk.fresh, List.getElem?_toArray, List.getElem?_cons_zero, List.getElem?_cons_succ] at c1 c2
      have hne2 : G ≠ A.s := D.out.gf.2.1
      obtain ⟨cs, hcs⟩ : ∃ cs, scells k (imgX X k) = cs := ⟨_, rfl⟩
      have hlen : ∀ i, i < k → (imgX X k i).length = 128 := fun i hi => by rw [imgX, if_pos hi]; exact XX.out i hi
      have hcl := Lib.hid (show cs.length = k * 128 by rw [← hcs]; exact scells_length hlen)
      have hc1 := Lib.hid (show ∀ v ∈ cs, v.oneCell' = true by rw [← hcs]; exact scells_one k _)
      have k3 := Lib.hid (show wr.drew.rangeAt A.f 0 cs by rw [← hcs]; exact range_drew1 (secs_range D.out.firm hlen).1)
      have k4 := Lib.hid (show wr.drew.there A.s 0 (k * 128) from there_drew1 (secs_range D.out.seen (fun _ _ => zs_length 128)).2)
      have D2 := Lib.hid (show IsDkS (wr.drew.setCells A.s 0 cs) w.heap.size G A (Dk.fresh k (imgX X k)) (imgX X k) by rw [← hcs]; exact IsDkS.copied D.out.drew1)
      clear hcs
      go_wp2_with fail
      go_region_held3 (fun w' => w'.cell? ⟨G, 1, none⟩ = some (.slice (some ⟨A.f, 0, none⟩) k k) ∧ w'.cell? ⟨G, 2, none⟩ = some (.slice (some ⟨A.s, 0, none⟩) k k)) (first | exact ⟨cell_drew1 c1, cell_drew1 c2⟩ | exact ⟨cell_far (cell_drew1 c1) hne2, cell_far (cell_drew1 c2) hne2⟩) (refine step_copy_secs (by rfl) (.tmp 34) (.tmp 38) (by rfl) A.s A.f k cs (by rfl) (by rfl) hcl.out k3.out k4.out hc1.out ?_)
      go_wp2_with fail
      go_ret
      refine .inl ⟨hgood.out, G, A, rfl, D2.out, ?_⟩
      have hs := setCells_os A.s cs 0 wr.drew
      have hb := (D.out.over A.s (mem_foot_s G A)).1
      exact B.out.trans ⟨hs.1, hs.2.1, hs.2.2.1, by rw [hs.2.2.2]; exact Nat.le_refl _, fun j hj => setCells_block _ _ _ _ _ (by omega)⟩
end Go.Proofs.Ytabjhjipnpfnbaa
