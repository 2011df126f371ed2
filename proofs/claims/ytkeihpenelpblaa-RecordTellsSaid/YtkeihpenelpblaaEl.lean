/-
  The document's own: may a file have a name?
-/
import Derived.Test.YtkeihpenelpblaaEb
import Derived.Test.YtkeihpenelpblaaPf
namespace Go.Proofs.Ytkeihpenelpblaa
open Go.RowKit BigFrame

theorem nb_at {s : ByteArray} {k : Nat} (h : k < s.size) : (s[k]'h).toNat = bz (nb s) k := by
  have h2 : k < (nb s).length := by rw [nb_length]; exact h
  rw [bz_get h2]
  simp only [nb, List.getElem_map, Array.getElem_toList]
  rfl
def NmRel (s : ByteArray) (i : Value) : Prop := ∃ k : Nat, k ≤ s.size ∧ i = .int .i64 k ∧ ∀ j, j < k → bz (nb s) j ≠ 47 ∧ bz (nb s) j ≠ 0
theorem not_mem_bz {l : List Nat} {c : Nat} (h : ∀ j, j < l.length → bz l j ≠ c) : c ∉ l := fun hm => by
  obtain ⟨j, hj, e⟩ := List.mem_iff_getElem.1 hm
  exact h j hj (by rw [bz_get hj]; exact e)
theorem mem_bz {l : List Nat} {c k : Nat} (hk : k < l.length) (h : bz l k = c) : c ∈ l := by rw [← h, bz_get hk]; exact List.getElem_mem hk
theorem nameB_long {l : List Nat} (h : 24 < l.length) : nameB l = false := by
  cases hb : nameB l
  · rfl
  · have := nameB_len hb; omega
theorem nameB_bad {l : List Nat} {c : Nat} (hc : c = 47 ∨ c = 0) (h : c ∈ l) : nameB l = false := by
  unfold nameB
  rcases hc with rfl | rfl
  · rw [show decide (47 ∉ l) = false from decide_eq_false (fun h2 => h2 h)]; simp
  · rw [show decide (0 ∉ l) = false from decide_eq_false (fun h2 => h2 h)]; simp
theorem nameB_good {l : List Nat} (h1 : 47 ∉ l) (h2 : 0 ∉ l) (h3 : l.length ≤ 24) : nameB l = (decide (1 ≤ l.length) && (decide (l ≠ [46]) && decide (l ≠ [46, 46]))) := by
  unfold nameB
  rw [decide_eq_true h1, decide_eq_true h2, decide_eq_true h3]
  cases decide (l ≠ [46]) <;> cases decide (l ≠ [46, 46]) <;> cases decide (1 ≤ l.length) <;> rfl

set_option maxHeartbeats 400000 in
theorem refName_any (s : ByteArray) (w : World) :
    Calls Try.prog 29 #[.string s] w fun e w' => e = .returned (.bool (nameB (nb s))) ∧ w = w' := by
  have hnl := Lib.hid (nb_length s)
  by_cases h24 : s.size ≤ 24
  · go_enter Try.func29, Try.ntmps29
    go_wp2_with fail
    go_loop [3] (fun i => NmRel s i) (fun i => s.size - (intOf i).toNat)
    case atStart => exact ⟨0, by omega, rfl, fun j h => by omega⟩
    case round =>
      obtain ⟨k, hk, rfl, heq⟩ := hrel
      have hq := Lib.hid heq
      clear heq
      by_cases hlt : k < s.size
      · have hat := nb_at hlt
        by_cases h1 : bz (nb s) k = 47
        · have hv := Lib.hid (nameB_bad (.inl rfl) (mem_bz (by rw [hnl.out]; exact hlt) h1))
          rw [h1] at hat
          have t1 : (((s[k]'hlt).toNat : Int) == 47) = true := by rw [hat]; rfl
          clear h1 hat
          go_wp2_with fail
          go_ret
          exact ⟨by rw [hv.out]; rfl, rfl⟩
        · have t1 : (((s[k]'hlt).toNat : Int) == 47) = false := by rw [beq_eq_false_iff_ne, hat]; omega
          by_cases h2 : bz (nb s) k = 0
          · have hv := Lib.hid (nameB_bad (.inr rfl) (mem_bz (by rw [hnl.out]; exact hlt) h2))
            rw [h2] at hat
            have t2 : (((s[k]'hlt).toNat : Int) == 0) = true := by rw [hat]; rfl
            clear h1 h2 hat
            go_wp2_with fail
            go_ret
            exact ⟨by rw [hv.out]; rfl, rfl⟩
          · have t2 : (((s[k]'hlt).toNat : Int) == 0) = false := by rw [beq_eq_false_iff_ne, hat]; omega
            have hn1 := Lib.hid h1
            have hn2 := Lib.hid h2
            clear h1 h2 hat
            go_wp2_with fail
            exact ⟨⟨k + 1, by omega, by go_num, fun j hj => by
              by_cases e : j = k
              · subst e; exact ⟨hn1.out, hn2.out⟩
              · exact hq.out j (by omega)⟩, by simp [intOf]; omega⟩
      · obtain rfl : k = s.size := by omega
        have hv := Lib.hid (nameB_good (l := nb s) (not_mem_bz fun j hj => (hq.out j (by rw [← hnl.out]; exact hj)).1) (not_mem_bz fun j hj => (hq.out j (by rw [← hnl.out]; exact hj)).2) (by rw [hnl.out]; exact h24))
        have q1 := dot_is (s := s)
        have q2 := dots_is (s := s)
        by_cases h1 : 1 ≤ s.size
        · by_cases h2 : nb s = [46]
          · rw [decide_eq_true h2] at q1
            have hv2 := Lib.hid (hv.out.trans (by rw [show decide (nb s ≠ [46]) = false from decide_eq_false (fun h => h h2)]; simp : _ = false))
            clear h2 q2
            go_wp2_with fail
            go_ret
            exact ⟨by rw [hv2.out]; rfl, rfl⟩
          · rw [decide_eq_false h2] at q1
            by_cases h3 : nb s = [46, 46]
            · rw [decide_eq_true h3] at q2
              have hv2 := Lib.hid (hv.out.trans (by rw [show decide (nb s ≠ [46, 46]) = false from decide_eq_false (fun h => h h3)]; simp : _ = false))
              clear h2 h3
              go_wp2_with fail
              go_ret
              exact ⟨by rw [hv2.out]; rfl, rfl⟩
            · rw [decide_eq_false h3] at q2
              have hv2 := Lib.hid (hv.out.trans (by rw [show decide (nb s ≠ [46]) = true from decide_eq_true h2, show decide (nb s ≠ [46, 46]) = true from decide_eq_true h3, hnl.out, decide_eq_true h1]; rfl : _ = true))
              clear h2 h3
              go_wp2_with fail
              go_ret
              exact ⟨by rw [hv2.out]; rfl, rfl⟩
        · have hv2 := Lib.hid (hv.out.trans (by rw [hnl.out, decide_eq_false h1]; rfl : _ = false))
          clear q1 q2
          go_wp2_with fail
          go_ret
          exact ⟨by rw [hv2.out]; rfl, rfl⟩
  · have hv := Lib.hid (nameB_long (l := nb s) (by rw [nb_length]; omega))
    go_enter Try.func29, Try.ntmps29
    go_wp2_with fail
    go_loop [3] (fun i => i = .int .i64 0) (fun _ => 1)
    case atStart => rfl
    case round =>
      subst hrel
      go_wp2_with fail
      go_ret
      exact ⟨by rw [hv.out]; rfl, rfl⟩
theorem refName_is (s : ByteArray) (r : Bool) (w : World) (hr : nameB (nb s) = r) :
    Calls Try.prog 29 #[.string s] w fun e w' => e = .returned (.bool r) ∧ w = w' := by
  subst hr; exact refName_any s w

end Go.Proofs.Ytkeihpenelpblaa
