/-
  split: the parts of a text of up to so many bytes.
-/
import Derived.Test.YtkocjkndkkhogaaDoorKc
import Derived.Test.YtkocjkndkkhogaaDoorEx
namespace Go.Proofs.YtkocjkndkkhogaaDoor
open Go.RowKit BigFrame

/-- texts and a code are told -/
def Gives2 (L : List (List Nat)) (c : Int) (w : World) (e : Ending) (w' : World) : Prop := ∃ v, e = .returned (.tuple #[v, .int .i64 c]) ∧ OwnT w' w.heap.size v L ∧ Below w.heap.size w w'
theorem empty_is (s : ByteArray) : s.toList.isEmpty = decide (nb s = []) := by
  rw [toList_u]
  unfold nb
  cases s.data.toList <;> rfl
theorem empty_str (p : List Nat) : (strOf p).toList.isEmpty = decide (p = []) := by
  rw [toList_u]
  show (p.map UInt8.ofNat).isEmpty = _
  cases p <;> rfl
theorem dot_str {p : List Nat} (h : Octs p) : ((strOf p).toList == [46]) = decide (p = dot) := str_is h dot dot_octs
theorem dots_str {p : List Nat} (h : Octs p) : ((strOf p).toList == [46, 46]) = decide (p = dots) := str_is h dots dots_octs
def SpRel (P Q : List (List Nat)) (a : Option Addr) (w1 : World) (v i : Value) (wr : World) : Prop :=
  ∃ (k : Nat) (out : List (List Nat)), k ≤ P.length ∧ i = .int .i64 k ∧ OwnT wr w1.heap.size v out ∧ TAt wr a P ∧ Below w1.heap.size w1 wr ∧ out ++ (P.drop k).filter realB = Q ∧ out.length ≤ 20 ∧ ∀ p ∈ out, p.length ≤ 24
theorem sizeL_len : ∀ (L : List (List Nat)), L.length ≤ sizeL L
  | [] => by simp
  | p :: ps => by
    have := sizeL_len ps
    simp only [List.length_cons, sizeL]; omega
theorem nameB_part {p : List Nat} (h1 : 47 ∉ p) (h2 : 0 ∉ p) (hr : realB p = true) (hd : p ≠ dots) : nameB p = decide (p.length ≤ 24) := by
  obtain ⟨h3, h4⟩ := realB_iff.1 hr
  have h5 : 1 ≤ p.length := by
    cases p with
    | nil => exact absurd rfl h3
    | cons x p => simp
  unfold nameB
  rw [decide_eq_true (show p ≠ [46] from h4), decide_eq_true (show p ≠ [46, 46] from hd), decide_eq_true h1, decide_eq_true h2, decide_eq_true h5]
  cases decide (p.length ≤ 24) <;> rfl

set_option maxHeartbeats 1000000 in
theorem split_any (s : ByteArray) (m : Nat) (w : World) (hm : m ≤ 1000) :
    Calls Tryd.prog 22 #[.string s, .int .i64 m] w (Gives2 (psOf (codeS m (nb s)) (nb s)) (codeS m (nb s)) w) := by
  have hsz := nb_length s
  have ho := Lib.hid (nb_octs s)
  by_cases h1 : nb s = []
  · have hc := Lib.hid (show codeS m (nb s) = 2 from if_pos (.inl h1))
    have t1 : s.toList = [] := by simpa [h1] using empty_is s
    clear h1 hsz
    go_enter Tryd.func22, Tryd.ntmps22
    go_wp2_with fail
    go_ret2
    refine ⟨_, by rw [hc.out]; rfl, ?_, Below.refl _ _⟩
    rw [hc.out]; exact .nil _ _
  have t1 : s.toList.isEmpty = false := by rw [empty_is, decide_eq_false h1]
  by_cases h2 : 0 ∈ nb s
  · have hc := Lib.hid (show codeS m (nb s) = 2 from if_pos (.inr h2))
    have h2' := Lib.hid h2
    clear h1 h2 hsz
    go_enter Tryd.func22, Tryd.ntmps22
    go_wp2_with (go_at_call 30; refine (place_yes s _ 0 _ rfl (by omega) h2'.out).mono ?_; rintro e w1 ⟨⟨p, rfl⟩, rfl⟩)
    go_ret2
    refine ⟨_, by rw [hc.out]; rfl, ?_, Below.refl _ _⟩
    rw [hc.out]; exact .nil _ _
  have h2' := Lib.hid h2
  by_cases h3 : m < s.size
  · have hc := Lib.hid (show codeS m (nb s) = 11 by rw [codeS, if_neg (not_or.2 ⟨h1, h2⟩), if_pos (.inl (by rw [hsz]; exact h3))])
    clear h1 h2 hsz
    go_enter Tryd.func22, Tryd.ntmps22
    go_wp2_with (go_at_call 30; refine (place_no s _ 0 _ rfl (by omega) h2'.out).mono ?_; rintro e w1 ⟨rfl, rfl⟩)
    go_ret2
    refine ⟨_, by rw [hc.out]; rfl, ?_, Below.refl _ _⟩
    rw [hc.out]; exact .nil _ _
  have hbad := Lib.hid (fun h : longL (partsL (nb s)) = true => show codeS m (nb s) = 11 by rw [codeS, if_neg (not_or.2 ⟨h1, h2⟩), if_pos (.inr h)])
  have hgood := Lib.hid (fun h : longL (partsL (nb s)) = false => show codeS m (nb s) = 0 by rw [codeS, if_neg (not_or.2 ⟨h1, h2⟩), if_neg (by rw [h, hsz]; simp; omega)])
  have hmem := Lib.hid (fun p (h : p ∈ pcs [] (nb s)) => show 47 ∉ p ∧ 0 ∉ p from ⟨(pcs_mem _ _ p (by simp) h).1, fun h0 => h2 (((pcs_mem _ _ p (by simp) h).2 0 h0).resolve_left (by simp))⟩)
  have hoc := Lib.hid (fun p (h : p ∈ pcs [] (nb s)) => show Octs p from ho.out.of fun x hx => ((pcs_mem _ _ p (by simp) h).2 x hx).resolve_left (by simp))
  clear h1 h2 hsz ho
  go_enter Tryd.func22, Tryd.ntmps22
  go_wp2_with (first
    | (go_at_call 30; refine (place_no s _ 0 _ rfl (by omega) h2'.out).mono ?_; rintro e w1 ⟨rfl, rfl⟩)
    | (go_at_call 32; refine (clone_c s _ (by omega)).mono ?_; rintro e w1 ⟨rfl, hb⟩; have hb1 := Lib.hid hb; clear hb)
    | (go_at_call 31; refine (split_c s _ (by omega)).mono ?_; rintro e w2 ⟨n, g, rfl, hn, ht, hb⟩; have hn2 := Lib.hid hn; have ht2 := Lib.hid ht; have hb2 := Lib.hid (hb1.out.trans (hb.mono hb1.out.size)); clear hn ht hb hb1))
  have hn3 : n ≤ 2000 := by
    have h4 := sizeL_len (pcs [] (nb s))
    rw [pcs_size, nb_length, ← hn2.out] at h4
    simp at h4
    omega
  go_loopw [6, 26] (fun v i wr => SpRel (pcs [] (nb s)) (partsL (nb s)) (some ⟨g, 0, none⟩) w2 v i wr) (fun _ i _ => n - (intOf i).toNat)
  case atStart => exact ⟨0, [], by omega, rfl, .nil _ _, ht2.out, Below.refl _ _, (by rw [List.drop_zero, List.nil_append]; rfl), by simp, fun p hp => absurd hp (by simp)⟩
  case round =>
    obtain ⟨k, out, hk, rfl, hO, hT, hB, hQ, h20, hle⟩ := hrel
    rw [← hn2.out] at hk
    have hO' := Lib.hid hO
    have hT' := Lib.hid hT
    have hB' := Lib.hid hB
    have hQ' := Lib.hid hQ
    have h20' := Lib.hid h20
    have hle' := Lib.hid hle
    by_cases hlt : k < n
    · have hkP := Lib.hid (show k < (pcs [] (nb s)).length by rw [← hn2.out]; exact hlt)
      have c1 := hT.cell hkP.out
      have hd := Lib.hid (tz_drop hkP.out)
      have hm1 := Lib.hid (hmem.out _ (tz_mem hkP.out))
      have ho1 := hoc.out _ (tz_mem hkP.out)
      obtain ⟨p, hp⟩ : ∃ p, tz (pcs [] (nb s)) k = p := ⟨_, rfl⟩
      rw [hp] at c1 hd hm1 ho1
      have he := empty_str p
      have hs1 := dot_str ho1
      have hs2 := dots_str ho1
      have hnb := Lib.hid (nb_strOf ho1)
      have hsz := Lib.hid (strOf_size p)
      have ho' := Lib.hid ho1
      obtain ⟨x, hx⟩ : ∃ x, strOf p = x := ⟨_, rfl⟩
      rw [hx] at c1 he hs1 hs2 hnb hsz
      have hx' := Lib.hid hx
      rw [Nat.zero_add] at c1
      have hnext := Lib.hid (fun (wr' : World) (v' : Value) (out' : List (List Nat)) (h1 : OwnT wr' w2.heap.size v' out') (h2 : Below w2.heap.size w2 wr') (h3 : out' ++ ((pcs [] (nb s)).drop (k + 1)).filter realB = partsL (nb s)) (h4 : out'.length ≤ 20) (h5 : ∀ p ∈ out', p.length ≤ 24) => show SpRel (pcs [] (nb s)) (partsL (nb s)) (some ⟨g, 0, none⟩) w2 v' (.int .i64 ((k : Int) + 1)) wr' from ⟨k + 1, out', by rw [← hn2.out]; omega, by go_num, h1, ht2.out.on h2 (Nat.le_refl _), h2, h3, h4, h5⟩)
      obtain ⟨a, cap, rfl, _⟩ := hO.slice
      clear hO hT hB hQ h20 hle hx hp ho1
      by_cases h1 : p = []
      · have e1 : x.toList = [] := by rw [decide_eq_true h1] at he; exact List.isEmpty_iff.1 he
        have hf := Lib.hid (show out ++ ((pcs [] (nb s)).drop (k + 1)).filter realB = partsL (nb s) by rw [← hQ'.out, hd.out, h1, List.filter_cons_of_neg (by decide)])
        clear he hs1 hs2 h1
        go_wp2_with fail
        exact ⟨hnext.out _ _ _ hO'.out hB'.out hf.out h20'.out hle'.out, by simp [intOf]; omega⟩
      · rw [decide_eq_false h1] at he
        by_cases h2 : p = dot
        · have e1 : (x.toList == [46]) = true := by rw [← decide_eq_true h2]; exact hs1
          have hf := Lib.hid (show out ++ ((pcs [] (nb s)).drop (k + 1)).filter realB = partsL (nb s) by rw [← hQ'.out, hd.out, h2, List.filter_cons_of_neg (by decide)])
          clear hs1 hs2 h1 h2
          go_wp2_with fail
          exact ⟨hnext.out _ _ _ hO'.out hB'.out hf.out h20'.out hle'.out, by simp [intOf]; omega⟩
        · have e1 : (x.toList == [46]) = false := by rw [← decide_eq_false h2]; exact hs1
          have hr := realB_iff.2 ⟨h1, h2⟩
          have hr' := Lib.hid hr
          have hq := Lib.hid (show out ++ p :: ((pcs [] (nb s)).drop (k + 1)).filter realB = partsL (nb s) by rw [← hQ'.out, hd.out, List.filter_cons_of_pos hr])
          clear hs1 h1 h2 hr
          by_cases h3 : out.length = 20
          · have e2 : ((out.length : Int) == 20) = true := by rw [h3]; rfl
            have hc := Lib.hid (hbad.out (by
              cases h : longL (partsL (nb s))
              · obtain ⟨_, h4⟩ := longL_no.1 h
                rw [← hq.out, List.length_append, List.length_cons] at h4
                omega
              · rfl))
            clear hs2 h3
            go_wp2_with fail
            go_ret2
            refine ⟨_, by rw [hc.out]; rfl, ?_, hb2.out.trans (hB'.out.mono hb2.out.size)⟩
            rw [hc.out]; exact .nil _ _
          · have e2 : ((out.length : Int) == 20) = false := by rw [beq_eq_false_iff_ne]; omega
            have h20n := Lib.hid (show out.length + 1 ≤ 20 by have := h20'.out; omega)
            have hOa := Lib.hid (hO'.out.alloc (.cells #[.string x] 9))
            have hNa := Lib.hid (show TAt (wr.alloc (.cells #[.string x] 9)) (some ⟨wr.heap.size, 0, none⟩) [p] by rw [← hx'.out]; exact text_new wr p)
            have hBa := Lib.hid (hB'.out.alloc hB'.out.size (.cells #[.string x] 9))
            have hza := Lib.hid hBa.out.size
            by_cases h4 : p = dots
            · rw [decide_eq_true h4] at hs2
              have h24 := Lib.hid (show p.length ≤ 24 by rw [h4]; decide)
              clear h4 h3
              go_wp2_with (at_builtin; refine wpList_append_texts rfl (.tmp 48) (.tmp 50) rfl w2.heap.size _ out rfl hOa.out ⟨wr.heap.size, 0, none⟩ 1 1 [p] rfl rfl hNa.out (by have := h20n.out; omega) hza.out ?_)
              intro v' w' hov hg2 hbl
              have hend := Lib.hid (hnext.out w' v' (out ++ [p]) hov.out (hBa.out.trans hbl) (by rw [List.append_assoc]; exact hq.out) (by rw [List.length_append]; exact h20n.out) (fun q hq2 => by
                rcases List.mem_append.1 hq2 with h | h
                · exact hle'.out q h
                · obtain rfl := List.mem_singleton.1 h
                  exact h24.out))
              clear hg2 hbl
              go_wp2_with fail
              exact ⟨hend.out, by simp [intOf]; omega⟩
            · rw [decide_eq_false h4] at hs2
              by_cases h24 : p.length ≤ 24
              · have hname := Lib.hid (show nameB (nb x) = true by rw [hnb.out, nameB_part hm1.out.1 hm1.out.2 hr'.out h4, decide_eq_true h24])
                have h24' := Lib.hid h24
                clear h4 h3 h24
                go_wp2_with (first
                  | (go_at_call 33; refine (name_is x true _ hname.out).mono ?_; rintro e w3 ⟨rfl, rfl⟩)
                  | (at_builtin; refine wpList_append_texts rfl (.tmp 48) (.tmp 50) rfl w2.heap.size _ out rfl hOa.out ⟨wr.heap.size, 0, none⟩ 1 1 [p] rfl rfl hNa.out (by have := h20n.out; omega) hza.out ?_))
                intro v' w' hov hg2 hbl
                have hend := Lib.hid (hnext.out w' v' (out ++ [p]) hov.out (hBa.out.trans hbl) (by rw [List.append_assoc]; exact hq.out) (by rw [List.length_append]; exact h20n.out) (fun q hq2 => by
                  rcases List.mem_append.1 hq2 with h | h
                  · exact hle'.out q h
                  · obtain rfl := List.mem_singleton.1 h
                    exact h24'.out))
                clear hg2 hbl
                go_wp2_with fail
                exact ⟨hend.out, by simp [intOf]; omega⟩
              · have hname := Lib.hid (show nameB (nb x) = false by rw [hnb.out, nameB_part hm1.out.1 hm1.out.2 hr'.out h4, decide_eq_false h24])
                have hc := Lib.hid (hbad.out (by
                  cases h : longL (partsL (nb s))
                  · obtain ⟨h5, _⟩ := longL_no.1 h
                    have := h5 p (by rw [← hq.out]; simp)
                    omega
                  · rfl))
                clear h4 h3 h24
                go_wp2_with (go_at_call 33; refine (name_is x false _ hname.out).mono ?_; rintro e w3 ⟨rfl, rfl⟩)
                go_ret2
                refine ⟨_, by rw [hc.out]; rfl, ?_, hb2.out.trans (hB'.out.mono hb2.out.size)⟩
                rw [hc.out]; exact .nil _ _
    · have hk2 : k = n := by omega
      have hfin : out = partsL (nb s) := by
        rw [← hQ, List.drop_of_length_le (by rw [← hn2.out, hk2]; exact Nat.le_refl _), List.filter_nil, List.append_nil]
      have hc := Lib.hid (hgood.out (longL_no.2 (by rw [← hfin]; exact ⟨hle, h20⟩)))
      have hfin' := Lib.hid hfin
      obtain ⟨a, cap, rfl, _⟩ := hO.slice
      clear hO hT hB hQ h20 hle hfin
      go_wp2_with fail
      go_ret2
      refine ⟨_, by rw [hc.out]; rfl, ?_, hb2.out.trans (hB'.out.mono hb2.out.size)⟩
      rw [hc.out, psOf, if_pos rfl, ← hfin'.out]
      exact hO'.out.lower hb2.out.size
end Go.Proofs.YtkocjkndkkhogaaDoor
