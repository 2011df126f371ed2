/-
  Arm, of both disks.
-/
import Derived.Test.YtmaodnidodoadaaRt
namespace Go.Proofs.Ytmaodnidodoadaa
open Go.RowKit BigFrame

theorem wpList_append_k {w : World} {ops : Array Oper} {rest : List Oper} {o : Oper} {a : Act} {Q : Exit → Act → World → Prop} (hgd : o.guard = none) (s x : Operand)
    (ho : o.op = .call { callee := .builtin .append, args := #[s, x], argTypes := #[28, 28] })
    (base : Nat) (hs : a.eval s = .slice none 0 0) (sp : Option Addr) (n sCap : Nat) (K : List Bool) (hx : a.eval x = .slice sp n sCap) (hm : K.length = n) (hsrc : KAt w sp K) (hnil : sp = none → sCap = 0)
    (hlen : n ≤ 1000000) (hbase : base ≤ w.heap.size)
    (h : ∀ v' w', Hid (w'.ownsRow base 4 1 v' K.length (kcells K)) → Below base w w' → wpList Try.prog ops Q rest (a.put o.dst v') w') : wpList Try.prog ops Q (o :: rest) a w := by
  subst hm
  obtain ⟨i, hi, hz0, hz1, hz2⟩ := info_parts Try.infoK
  cases sp with
  | none =>
    obtain rfl := hnil rfl
    have hm : K = [] := by
      rcases hsrc with h | ⟨b, off, e, _⟩
      · exact List.eq_nil_of_length_eq_zero h
      · cases e
    subst hm
    exact wpList_append_own_none hgd s x _ ho base 4 i 1 Try.underlying28 hi (.slice none 0 0) 0 [] hs (World.ownsRow_nil _ _ _ _) hx (h _ _ (Lib.hid (World.ownsRow_nil _ _ _ _)) (Below.refl _ _))
  | some ad =>
    refine wpList_append_own w hgd s x _ ho base 4 i (.bool false) 1 1 Try.underlying28 hi hz0 hz1 hz2 rfl (by decide) (.slice none 0 0) 0 [] hs (World.ownsRow_nil _ _ _ _) ad K.length sCap (kcells K) hx (by rw [kcells_length, Nat.mul_one]) ?_ (kcells_one K) (by unfold maxLen; omega) (by omega) hbase ?_
    · intro j u hu
      obtain ⟨hj, rfl⟩ := kcells_at hu
      rcases hsrc with h | ⟨b, off, e, h⟩
      · omega
      · obtain rfl := Option.some.inj e
        rw [addr_add]; exact h j hj
    · intro v' w' hv hg _
      refine h v' w' ?_ ((Below.refl _ _).grown hg hbase (fun k hk => by cases hk))
      have := hv
      rw [Nat.zero_add, List.nil_append] at this
      exact Lib.hid this
theorem arm_off (w : World) (B : Nat) (G : Nat) (A : Lies) (d : Dk) (at' : Int) (v : Value) (h : IsDk w B G A d) (hon : d.on = false) :
    Calls Try.prog 31 #[.pointer (some ⟨G, 0, none⟩), .int .i64 at', v] w (GivesS (.int .i64 4) d B G A w) := by
  have h' := Lib.hid h
  have hon' := Lib.hid hon
  clear h hon
  go_enter Try.func31, Try.ntmps31
  go_wp2_with (go_at_call 40; refine (powered_any _ B G A d h'.out).mono ?_; rw [hon'.out]; rintro e w1 ⟨rfl, rfl⟩)
  go_ret
  exact ⟨rfl, A, h'.out, Step.refl _ _⟩
theorem arm_neg (w : World) (B : Nat) (G : Nat) (A : Lies) (d : Dk) (at' : Int) (v : Value) (h : IsDk w B G A d) (hon : d.on = true) (ha : at' < 0) :
    Calls Try.prog 31 #[.pointer (some ⟨G, 0, none⟩), .int .i64 at', v] w (GivesS (.int .i64 2) d B G A w) := by
  have h' := Lib.hid h
  have hon' := Lib.hid hon
  have t1 : decide (at' < 0) = true := decide_eq_true ha
  clear h hon
  go_enter Try.func31, Try.ntmps31
  go_wp2_with (go_at_call 40; refine (powered_any _ B G A d h'.out).mono ?_; rw [hon'.out]; rintro e w1 ⟨rfl, rfl⟩)
  go_ret
  exact ⟨rfl, A, h'.out, Step.refl _ _⟩
theorem rarm_off (w : World) (B : Nat) (G : Nat) (A : RLies) (R : List Nat) (d : Dk) (at' : Int) (v : Value) (h : IsRf w B G A R d) (hon : d.on = false) :
    Calls Try.prog 32 #[.pointer (some ⟨G, 0, none⟩), .int .i64 at', v] w (GivesRf (.int .i64 4) d B G A R w) := by
  have c2 := h.cell 2
  simp only [rcells, hon, Bool.not_false, List.getElem?_toArray, List.getElem?_cons_zero, List.getElem?_cons_succ] at c2
  have h' := Lib.hid h
  clear h hon
  go_enter Try.func32, Try.ntmps32
  go_wp2_with fail
  go_ret
  exact ⟨rfl, A, h'.out, Step.refl _ _⟩
theorem rarm_neg (w : World) (B : Nat) (G : Nat) (A : RLies) (R : List Nat) (d : Dk) (at' : Int) (v : Value) (h : IsRf w B G A R d) (hon : d.on = true) (ha : at' < 0) :
    Calls Try.prog 32 #[.pointer (some ⟨G, 0, none⟩), .int .i64 at', v] w (GivesRf (.int .i64 2) d B G A R w) := by
  have c2 := h.cell 2
  simp only [rcells, hon, Bool.not_true, List.getElem?_toArray, List.getElem?_cons_zero, List.getElem?_cons_succ] at c2
  have h' := Lib.hid h
  have t1 : decide (at' < 0) = true := decide_eq_true ha
  clear h hon
  go_enter Try.func32, Try.ntmps32
  go_wp2_with fail
  go_ret
  exact ⟨rfl, A, h'.out, Step.refl _ _⟩
theorem rarm_end {w w1 : World} {B G : Nat} {A : RLies} {R : List Nat} {d : Dk} {af : Nat} {K : List Bool} {v : Value} (h : IsRf w B G A R d) (hk : w1.ownsRow w.heap.size 4 1 v K.length (kcells K)) (hb : Below w.heap.size w w1) (ha : af < 9223372036854775808) (hK : K.length ≤ 1000) :
    IsRf ((w1.setCell ⟨G, 3, none⟩ (.int .i64 (af : Int))).setCell ⟨G, 5, none⟩ v) B G { A with vK := v } R (d.armed af K) ∧ Step w (A.foot G) ((w1.setCell ⟨G, 3, none⟩ (.int .i64 (af : Int))).setCell ⟨G, 5, none⟩ v) (A.foot G) := by
  have h1 := h.read hb
  have hst : Step w1 (A.foot G) ((w1.setCell ⟨G, 3, none⟩ (.int .i64 (af : Int))).setCell ⟨G, 5, none⟩ v) (A.foot G) := ((Step.refl _ _).setCell _ _ _ (RLies.mem_G G A)).setCell _ _ _ (RLies.mem_G G A)
  have hlt := World.ownsRow.lt hk
  obtain ⟨a, cap, rfl, hc, hka, hbl⟩ := own_kat hk rfl
  refine ⟨h1.head (A' := { A with vK := _ }) ?_ hst (fun k hk => by rw [Below.heap_setCell _ _ _ _ hk, Below.heap_setCell _ _ _ _ hk]) rfl rfl rfl rfl rfl (h1.waits.step (hst.beside R)) (fun _ => ?_) (h.fine.armed ha hK) rfl (fun _ _ => rfl), (Step.of_below hb _).trans hst⟩
  · rw [heap_setCell_same _ _ _ _ _ _ (heap_setCell_same _ _ _ _ _ _ h1.hdr)]
    simp [rcells, Dk.armed, leftN]
  · have hk1 : KeepAt w1 (A.foot G ++ R) (.slice a K.length cap) K := ⟨a, cap, rfl, hc, hka, fun b o h0 e => by
      have h2 := hlt b (hbl b o h0 e)
      refine ⟨fun hm => ?_, h2.2⟩
      rcases List.mem_append.1 hm with hm | hm
      · have := (h.over b hm).2.2; omega
      · have := h.under b hm; omega⟩
    exact hk1.step (hst.beside R)
set_option maxHeartbeats 400000 in
theorem rarm_go (w : World) (B : Nat) (G : Nat) (A : RLies) (R : List Nat) (d : Dk) (h : IsRf w B G A R d) (hon : d.on = true) (af : Nat) (ha : af < 9223372036854775808) (ka : Option Addr) (nk kcap : Nat) (K : List Bool) (hK : K.length = nk) (hkb : nk ≤ 1000) (hka : KAt w ka K) (hnil : ka = none → kcap = 0) :
    Calls Try.prog 32 #[.pointer (some ⟨G, 0, none⟩), .int .i64 (af : Int), .slice ka nk kcap] w (GivesRf (.int .i64 0) (d.armed af K) B G A R w) := by
  have c2 := h.cell 2
  simp only [rcells, hon, Bool.not_true, List.getElem?_toArray, List.getElem?_cons_zero, List.getElem?_cons_succ] at c2
  have h' := Lib.hid h
  have hK' := Lib.hid hK
  have hka' := Lib.hid hka
  have hnil' := Lib.hid hnil
  have t1 : decide ((af : Int) < 0) = false := decide_eq_false (by omega)
  clear h hon hK hka hnil
  go_enter Try.func32, Try.ntmps32
  go_wp2_with (at_builtin; refine wpList_append_k rfl (.const (.slice none 0 0)) (.tmp 18) rfl w.heap.size rfl ka nk kcap K rfl hK'.out hka'.out hnil'.out (by omega) (Nat.le_refl _) ?_; intro v5 w5 ho5 hb5; obtain ⟨a5, cap5, rfl, _, _⟩ := own_form ho5.out; have B5 := Lib.hid hb5; have D5 := Lib.hid (h'.out.read hb5); have c3 := D5.out.cell 3; have c5 := D5.out.cell 5; have f3 := D5.out.frozen 3; have f5 := D5.out.frozen 5; simp only [rcells, List.getElem?_toArray, List.getElem?_cons_zero, List.getElem?_cons_succ] at c3 c5; clear hb5)
  go_ret
  obtain ⟨h1, h2⟩ := rarm_end h'.out ho5.out B5.out ha (by rw [hK'.out]; exact hkb)
  exact ⟨rfl, _, h1, h2⟩
end Go.Proofs.Ytmaodnidodoadaa
