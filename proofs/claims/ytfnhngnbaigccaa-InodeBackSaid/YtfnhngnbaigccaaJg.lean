/-
  What Lay makes.
-/
import Derived.Test.YtfnhngnbaigccaaJf
import Derived.Test.YtfnhngnbaigccaaZl
import Derived.Deep.WholeRow
namespace Go.Proofs.Ytfnhngnbaigccaa
open Go.RowKit BigFrame

theorem zero_ino (w : World) : (zeroValue 24).run Try.prog w = .ok (av (zz 11)) w := (zero_of_info Try.infoIno).1 w
theorem wpList_alloc_ino {w : World} {ops : Array Oper} {rest : List Oper} {o : Oper} {a : Act} {Q : Exit → Act → World → Prop} (hgd : o.guard = none) (ho : o.op = .alloc 24)
    (h : ∀ g w1, Hid (Vi w1 24 g (zz 11)) → w.heap.size ≤ g → Below w.heap.size w w1 → wpList Try.prog ops Q rest (a.put o.dst (.pointer (some ⟨g, 0, none⟩))) w1) : wpList Try.prog ops Q (o :: rest) a w := by
  refine wpList_plain hgd fun K hK => ?_
  have hz := zero_ino w
  unfold Oper.wp
  simp [execOp, ho, Instr.alloc, Sem.run_bind, hz, newVar, Value.cells, av, Result.andThen]
  exact hK _ _ (h _ _ (heap_alloc_new w _) (Nat.le_refl _) ((Below.refl _ _).alloc (Nat.le_refl _) _))

def laidNo : Value := .tuple #[.slice none 0 0, .int .i64 2]
def LaRel (L : List Int) (w : World) (g : Nat) (i : Value) (wr : World) : Prop := ∃ k : Nat, k ≤ 4 ∧ i = .int .i64 k ∧ mayN L k ∧ Row wr g (splice (zs 92) 0 (spellN L k)) ∧ Below w.heap.size w wr
def LaPost (L : List Int) (w : World) (e : Ending) (w' : World) : Prop := (may4 L = true ∧ SealPost 73 (spellN L 4) w e w') ∨ (may4 L = false ∧ e = .returned laidNo ∧ Below w.heap.size w w')
theorem may4_no {L : List Int} {k : Nat} (hk : k < 4) (h : mayI (inoAt L k) = false) : may4 L = false := by
  cases h2 : may4 L
  · rfl
  · rw [may4_iff.1 h2 k hk] at h; cases h

attribute [local go_sem ↓] ldI_of ldF_of ixF_of stI_of
set_option maxHeartbeats 2000000 in
theorem inoLay_any (L : List Int) (w : World) (hL : L.length = 44) :
    Calls Try.prog 10 #[av L] w (LaPost L w) := by
  have hL' := Lib.hid hL
  have hV := Vi.alloc w L 25
  have hb0 := Lib.hid ((Below.refl w.heap.size w).alloc (Nat.le_refl _) (.cells (iv L).toArray 25))
  have hV' := Lib.hid hV
  clear hV hL
  unfold av
  go_enter Try.func10, Try.ntmps10
  go_wp2_with (at_make; refine wpList_make_bytes rfl _ _ rfl 92 rfl rfl (by decide) ?_; intro g1 w1 hr1 hg1 hb1; have hld := run_ldF (hV'.out.on' hb1).whole hL'.out; unfold av at hld; have hB1 := Lib.hid (below_two hb0.out hb1); have hg1' := Lib.hid (Nat.le_trans hb0.out.size hg1); clear hb1 hg1)
  clear hld
  go_loopw [9] (fun i wr => LaRel L w g1 i wr) (fun i _ => 4 - (intOf i).toNat)
  case atStart => exact ⟨0, by omega, rfl, fun k hk => by omega, by rw [spellN, splice_nil]; exact hr1.out, hB1.out⟩
  case round =>
    obtain ⟨k, hk, rfl, hmay, hrow, hbel⟩ := hrel
    have hM := Lib.hid hmay
    have hR := Lib.hid hrow
    have hB := Lib.hid hbel
    have hgw := Lib.hid hrow.lt
    clear hmay hrow hbel
    by_cases hlt : k < 4
    · have hix := fun w => run_ixF w L k hlt
      obtain ⟨I, hI⟩ : ∃ I, inoAt L k = I := ⟨_, rfl⟩
      have hIl := Lib.hid (show I.length = 11 by rw [← hI]; exact inoAt_length hL'.out hlt)
      rw [hI] at hix
      have hI' := Lib.hid hI
      clear hI
      unfold av at hix
      cases hm0 : mayI I
      · have hm := Lib.hid hm0
        have hno := Lib.hid (may4_no hlt (by rw [hI'.out]; exact hm0))
        clear hm0
        go_wp2_with (first
          | (refine wpList_alloc_ino rfl rfl ?_; intro g2 w2 hv2 hg2 hb2; have hst := run_stI hIl.out (hv2.out.there (o := 0) (n := 11) (by rw [zz_length]; omega)); have hld := run_ldI (hv2.out.over (by rw [hIl.out, zz_length])).whole hIl.out; unfold av at hst hld; have hB2 := Lib.hid (below_setCells (below_two hB.out hb2) (Nat.le_trans hB.out.size hg2) 0 (iv I)); clear hb2)
          | (go_at_call 19; refine (inoMay_is I false _ hIl.out hm.out).mono ?_; rintro e w3 ⟨rfl, hb3⟩; have hB3 := Lib.hid (below_two hB2.out hb3); clear hb3))
        go_ret2
        exact .inr ⟨hno.out, rfl, hB3.out⟩
      · have hm := Lib.hid hm0
        clear hm0
        go_wp2_with (first
          | (refine wpList_alloc_ino rfl rfl ?_; intro g2 w2 hv2 hg2 hb2; have hst := run_stI hIl.out (hv2.out.there (o := 0) (n := 11) (by rw [zz_length]; omega)); have hld := run_ldI (hv2.out.over (by rw [hIl.out, zz_length])).whole hIl.out; unfold av at hst hld; have hV2 := Lib.hid (hv2.out.over (m := I) (by rw [hIl.out, zz_length])); have hB2 := Lib.hid (below_setCells (below_two hB.out hb2) (Nat.le_trans hB.out.size hg2) 0 (iv I)); have hR2 := Lib.hid ((hR.out.on hb2 hgw.out).oth (Oth.setCells (Oth.refl g2 w2) 0 (iv I)) (by have := hgw.out; omega)); clear hb2)
          | (go_at_call 19; refine (inoMay_is I true _ hIl.out hm.out).mono ?_; rintro e w3 ⟨rfl, hb3⟩; have hB3 := Lib.hid (below_two hB2.out hb3); have hR3 := Lib.hid (hR2.out.on hb3 hR2.out.lt); have hV3 := Lib.hid (hV2.out.on' hb3); clear hb3))
        clear hld hst
        have hs := Lib.hid (run_ldI (w := w3.drew) hV3.out.whole hIl.out)
        have hs1 := hs.out
        unfold av at hs1
        obtain ⟨q, hq⟩ : ∃ q, k * 23 = q := ⟨_, rfl⟩
        obtain ⟨r, hr⟩ : ∃ r, k + 1 = r := ⟨_, rfl⟩
        obtain ⟨s, hs2⟩ : ∃ s, r * 23 = s := ⟨_, rfl⟩
        have m1 : (k : Int) * 23 = (q : Int) := by omega
        have m2 : (k : Int) + 1 = (r : Int) := by omega
        have m3 : (r : Int) * 23 = (s : Int) := by omega
        have m4 : IntKind.i64.wrap (q : Int) = (q : Int) := wrap_in (by omega)
        have m5 : IntKind.i64.wrap (r : Int) = (r : Int) := wrap_in (by omega)
        have m6 : IntKind.i64.wrap (s : Int) = (s : Int) := wrap_in (by omega)
        have p1 : (0 : Int) ≤ (q : Int) := by omega
        have p2 : (q : Int) ≤ (s : Int) := by omega
        have p3 : (s : Int) ≤ (92 : Int) := by omega
        have p4 : ¬ 92 = q := by omega
        have p5 : s - q = 23 := by omega
        have hql := Lib.hid hq
        have hrl := Lib.hid hr
        have hc92 : 23 ≤ 92 - q := by omega
        clear hq hr hs2
        have hLen := Lib.hid (show (splice (zs 92) 0 (spellN L k)).length = 92 by rw [length_splice _ _ _ (by rw [spellN_length hL'.out k hk, zs_length]; omega), zs_length])
        have hsplit := Lib.hid (show splice (splice (zs 92) 0 (spellN L k)) q (spellI I) = splice (zs 92) 0 (spellN L (k + 1)) by
          have := splice_splice (zs 92) (spellN L k) (spellI I) 0 (by rw [spellN_length hL'.out k hk, zs_length]; omega)
          rw [spellN_length hL'.out k hk, show 0 + 23 * k = q by omega] at this
          rw [this, spellN, hI'.out])
        have hg12 := Lib.hid (show ¬ g2 = g1 by have := hgw.out; omega)
        go_region_held3 (fun w' => (ldA 24 (.pointer (some ⟨g2, 0, none⟩))).run Try.prog w' = .ok (.agg (iv I).toArray) w') (first | exact hs1 | exact q1) (first
          | (go_at_call 24; refine (spell_any g1 q _ (splice (zs 92) 0 (spellN L k)) I _ hIl.out (mayI_fits hIl.out hm.out) hc92 hR3.out.drew1 (by rw [hLen.out]; omega)).mono ?_; rintro e w4 ⟨rfl, hr4, hg4⟩; have hV4 := hV3.out.drew1.grown hg4 (fun e => hg12.out (Option.some.inj e)); have q1 := run_ldI hV4.whole hIl.out; unfold av at q1; have hR4 := Lib.hid (hsplit.out ▸ hr4); have hB4 := Lib.hid (hB3.out.drew.grown hg4 hB3.out.size (fun k hk => by cases hk; exact hg1'.out)); clear hr4 hg4 hV4))
        go_wp2_with fail
        exact ⟨⟨k + 1, by omega, by go_num, fun j hj => by
          by_cases e : j = k
          · subst e; rw [hI'.out]; exact hm.out
          · exact hM.out j (by omega), hR4.out, hB4.out⟩, by simp [intOf]; omega⟩
    · obtain rfl : k = 4 := by omega
      have hlen := spellN_length hL'.out 4 (by omega)
      have hsp : splice (zs 92) 0 (spellN L 4) = spellN L 4 := by simp [splice, hlen, zs]
      have hR4 := hR.out
      rw [hsp] at hR4
      have hR5 := Lib.hid hR4
      have hlen' := Lib.hid hlen
      clear hlen hsp hR4
      go_wp2_with (go_at_call 25; refine (seal_n (n := 92) 73 _ _ (spellN L 4) _ hlen'.out (by decide) (by decide) (spellN_octs L 4) (by decide) hR5.out.bat).mono ?_; rintro e w5 ⟨g5, rfl, hg5, hr5, hb5⟩; have hend := Lib.hid (show SealPost 73 (spellN L 4) w _ w5 from ⟨g5, rfl, Nat.le_trans hB.out.size hg5, hr5, below_two hB.out hb5⟩); clear hr5 hb5)
      go_ret2
      exact .inl ⟨may4_iff.2 hM.out, hend.out⟩
theorem inoLay_no (L : List Int) (w : World) (hL : L.length = 44) (h : may4 L = false) : Calls Try.prog 10 #[av L] w (Tells laidNo w) :=
  (inoLay_any L w hL).mono fun _ _ h2 => h2.elim (fun h3 => absurd (h3.1.symm.trans h) (by decide)) (fun h3 => h3.2)
theorem inoLay_ok (L : List Int) (w : World) (hL : L.length = 44) (h : may4 L = true) : Calls Try.prog 10 #[av L] w (SealPost 73 (spellN L 4) w) :=
  (inoLay_any L w hL).mono fun _ _ h2 => h2.elim (fun h3 => h3.2) (fun h3 => absurd (h3.1.symm.trans h) (by decide))
end Go.Proofs.Ytfnhngnbaigccaa
