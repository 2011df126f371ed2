/-
  The document's own: the parts, and Split.
-/
import Derived.Test.YtkocjkndkkhogaaDoorKh
namespace Go.Proofs.YtkocjkndkkhogaaDoor
open Go.RowKit BigFrame

theorem nb_extract (s : ByteArray) (m k : Nat) : nb (s.extract m k) = ((nb s).take k).drop m := by
  unfold nb
  rw [Lib.extract_data]
  simp [List.map_drop, List.map_take, List.drop_take]
/-- what stands between two places -/
def midL (l : List Nat) (m k : Nat) : List Nat := (l.take k).drop m
theorem mid_same (l : List Nat) (k : Nat) : midL l k k = [] := by
  unfold midL
  exact List.drop_of_length_le (by rw [List.length_take]; omega)
theorem mid_succ {l : List Nat} {m k : Nat} (hm : m ≤ k) (hk : k < l.length) : midL l m (k + 1) = midL l m k ++ [bz l k] := by
  unfold midL
  rw [take_succ_bz hk, List.drop_append_of_le_length (by rw [List.length_take]; omega)]
theorem mid_length {l : List Nat} {m k : Nat} (hk : k ≤ l.length) : (midL l m k).length = k - m := by
  unfold midL
  rw [List.length_drop, List.length_take]; omega
theorem drop_bz {l : List Nat} {k : Nat} (h : k < l.length) : l.drop k = bz l k :: l.drop (k + 1) := by rw [bz_get h, List.drop_eq_getElem_cons h]
theorem mid_octs {l : List Nat} (h : Octs l) (m k : Nat) : Octs (midL l m k) := (h.take k).drop m
theorem mid_str (s : ByteArray) (m k : Nat) : s.extract m k = strOf (midL (nb s) m k) := by
  rw [← strOf_nb (s.extract m k), nb_extract]; rfl
def PaAt (l : List Nat) (k m : Nat) (out : List (List Nat)) : Prop :=
  (k ≤ l.length ∧ out ++ (pcs (midL l m k) (l.drop k)).filter realB = partsL l) ∨ (k = l.length + 1 ∧ out = partsL l)
theorem pa_start (l : List Nat) : PaAt l 0 0 [] := .inl ⟨by omega, by rw [mid_same, List.nil_append, List.drop_zero]; rfl⟩
theorem pa_on {l : List Nat} {k m : Nat} {out : List (List Nat)} (h : PaAt l k m out) (hm : m ≤ k) (hk : k < l.length) (hx : bz l k ≠ 47) : PaAt l (k + 1) m out := by
  rcases h with ⟨_, h⟩ | ⟨h, _⟩
  · refine .inl ⟨by omega, ?_⟩
    rw [drop_bz hk, pcs_other _ _ hx] at h
    rw [mid_succ hm hk]; exact h
  · omega
/-- a piece's end -/
def pick1 (p : List Nat) : List (List Nat) := if realB p then [p] else []
theorem pa_end {l : List Nat} {k m : Nat} {out : List (List Nat)} (h : PaAt l k m out) (hk : k ≤ l.length) (hx : k < l.length → bz l k = 47) : PaAt l (k + 1) (k + 1) (out ++ pick1 (midL l m k)) := by
  rcases h with ⟨_, h⟩ | ⟨h, _⟩
  · have hp : ∀ r : List (List Nat), (midL l m k :: r).filter realB = pick1 (midL l m k) ++ r.filter realB := by
      intro r
      unfold pick1
      cases hr : realB (midL l m k) <;> simp [hr]
    by_cases hlt : k < l.length
    · rw [drop_bz hlt, hx hlt, pcs_slash, hp] at h
      exact .inl ⟨by omega, by rw [mid_same, List.append_assoc]; exact h⟩
    · have e : k = l.length := by omega
      rw [List.drop_of_length_le (by omega)] at h
      refine .inr ⟨by omega, ?_⟩
      rw [← h]
      show _ = out ++ [midL l m k].filter realB
      rw [hp]; simp
  · omega
def PaRel (s : ByteArray) (w0 : World) (v m i : Value) (wr : World) : Prop :=
  ∃ (k f : Nat) (out : List (List Nat)), k ≤ s.size + 1 ∧ f ≤ k ∧ i = .int .i64 k ∧ m = .int .i64 f ∧ OwnT wr w0.heap.size v out ∧ Below w0.heap.size w0 wr ∧ PaAt (nb s) k f out ∧ out.length ≤ k

set_option maxHeartbeats 1000000 in
theorem refParts_any (s : ByteArray) (w : World) (hs : s.size ≤ 2000) :
    Calls Tryd.prog 25 #[.string s] w (GivesT (partsL (nb s)) w) := by
  have hnl := Lib.hid (nb_length s)
  have ho := Lib.hid (nb_octs s)
  go_enter Tryd.func25, Tryd.ntmps25
  go_wp2_with fail
  go_loopw [3, 4, 5] (fun v m i wr => PaRel s w v m i wr) (fun _ _ i _ => s.size + 1 - (intOf i).toNat)
  case atStart => exact ⟨0, 0, [], by omega, by omega, rfl, rfl, .nil _ _, Below.refl _ _, pa_start _, by simp⟩
  case round =>
    obtain ⟨k, f, out, hk, hf, rfl, rfl, hO, hB, hP, hle⟩ := hrel
    have hO' := Lib.hid hO
    have hB' := Lib.hid hB
    have hP' := Lib.hid hP
    have hle' := Lib.hid hle
    obtain ⟨a, cap, rfl, hjunk⟩ := hO.slice
    clear hO hB hP hle hjunk
    by_cases hlt : k ≤ s.size
    · have hend : ∀ (wr' : World) (v' : Value), (k < s.size → bz (nb s) k = 47) → OwnT wr' w.heap.size v' (out ++ pick1 (midL (nb s) f k)) → Below w.heap.size w wr' → PaRel s w v' (.int .i64 ((k : Int) + 1)) (.int .i64 ((k : Int) + 1)) wr' := by
        intro wr' v' h1 h2 h3
        refine ⟨k + 1, k + 1, _, by omega, by omega, by go_num, by go_num, h2, h3, pa_end hP'.out (by rw [hnl.out]; exact hlt) (fun h => h1 (by rw [← hnl.out]; exact h)), ?_⟩
        rw [List.length_append]
        have := hle'.out
        have h4 : (pick1 (midL (nb s) f k)).length ≤ 1 := by unfold pick1; split <;> simp
        omega
      have hend' := Lib.hid hend
      clear hend
      have hmid := mid_str s f k
      have hms := Lib.hid (dot_str (mid_octs ho.out f k))
      have hml := Lib.hid (mid_length (l := nb s) (m := f) (k := k) (by rw [hnl.out]; exact hlt))
      obtain ⟨p, hp⟩ : ∃ p, midL (nb s) f k = p := ⟨_, rfl⟩
      rw [hp] at hend' hmid hms hml
      have hp' := Lib.hid hp
      rw [← hmid] at hms
      have hmid' := Lib.hid hmid
      have hOa := Lib.hid (hO'.out.alloc (.cells #[.string (s.extract f k)] 9))
      have hNa := Lib.hid (show TAt (wr.alloc (.cells #[.string (s.extract f k)] 9)) (some ⟨wr.heap.size, 0, none⟩) [p] by rw [hmid]; exact text_new wr p)
      have hBa := Lib.hid (hB'.out.alloc hB'.out.size (.cells #[.string (s.extract f k)] 9))
      have hza := Lib.hid hBa.out.size
      clear hp hmid
      by_cases hk2 : k < s.size
      · have hat := nb_at2 hk2
        by_cases h47 : bz (nb s) k = 47
        · rw [h47] at hat
          have t1 : (((s[k]'hk2).toNat : Int) != 47) = false := by rw [hat]; rfl
          have h47' := Lib.hid (fun _ : k < s.size => h47)
          clear h47 hat
          by_cases hfk : f < k
          · by_cases hr : p = dot
            · have e1 : ((s.extract f k).toList == [46]) = true := by rw [hms.out, decide_eq_true hr]
              have hfin := Lib.hid (show out ++ pick1 p = out by rw [hr]; simp [pick1, realB])
              clear hr
              go_wp2_with fail
              exact ⟨hend'.out _ _ h47'.out (by rw [hfin.out]; exact hO'.out) hB'.out, by simp [intOf]; omega⟩
            · have e1 : ((s.extract f k).toList == [46]) = false := by rw [hms.out, decide_eq_false hr]
              have hpk := Lib.hid (show pick1 p = [p] by
                have h1 : p ≠ [] := fun h => by have := hml.out; rw [h] at this; simp at this; omega
                unfold pick1; rw [realB_iff.2 ⟨h1, hr⟩]; rfl)
              clear hr
              go_wp2_with (at_builtin; refine wpList_append_texts rfl (.tmp 32) (.tmp 37) rfl w.heap.size _ out rfl hOa.out ⟨wr.heap.size, 0, none⟩ 1 1 [p] rfl rfl hNa.out (by have := hle'.out; omega) hza.out ?_)
              intro v' w' hov hg3 hbl
              have hfin := Lib.hid (hend'.out w' v' h47'.out (by rw [hpk.out]; exact hov.out) (hBa.out.trans hbl))
              clear hg3 hbl
              go_wp2_with fail
              exact ⟨hfin.out, by simp [intOf]; omega⟩
          · have hfin := Lib.hid (show out ++ pick1 p = out by
              have h1 : p = [] := List.eq_nil_of_length_eq_zero (by rw [hml.out]; omega)
              rw [h1]; simp [pick1, realB])
            go_wp2_with fail
            exact ⟨hend'.out _ _ h47'.out (by rw [hfin.out]; exact hO'.out) hB'.out, by simp [intOf]; omega⟩
        · have t1 : (((s[k]'hk2).toNat : Int) != 47) = true := by rw [bne_iff_ne, hat]; omega
          have hon := Lib.hid (pa_on hP'.out hf (by rw [hnl.out]; exact hk2) h47)
          clear h47 hat
          go_wp2_with fail
          exact ⟨⟨k + 1, f, out, by omega, by omega, by go_num, rfl, hO'.out, hB'.out, hon.out, by have := hle'.out; omega⟩, by simp [intOf]; omega⟩
      · have h47' := Lib.hid (fun h : k < s.size => absurd h hk2 (b := bz (nb s) k = 47))
        by_cases hfk : f < k
        · by_cases hr : p = dot
          · have e1 : ((s.extract f k).toList == [46]) = true := by rw [hms.out, decide_eq_true hr]
            have hfin := Lib.hid (show out ++ pick1 p = out by rw [hr]; simp [pick1, realB])
            clear hr
            go_wp2_with fail
            exact ⟨hend'.out _ _ h47'.out (by rw [hfin.out]; exact hO'.out) hB'.out, by simp [intOf]; omega⟩
          · have e1 : ((s.extract f k).toList == [46]) = false := by rw [hms.out, decide_eq_false hr]
            have hpk := Lib.hid (show pick1 p = [p] by
              have h1 : p ≠ [] := fun h => by have := hml.out; rw [h] at this; simp at this; omega
              unfold pick1; rw [realB_iff.2 ⟨h1, hr⟩]; rfl)
            clear hr
            go_wp2_with (at_builtin; refine wpList_append_texts rfl (.tmp 32) (.tmp 37) rfl w.heap.size _ out rfl hOa.out ⟨wr.heap.size, 0, none⟩ 1 1 [p] rfl rfl hNa.out (by have := hle'.out; omega) hza.out ?_)
            intro v' w' hov hg3 hbl
            have hfin := Lib.hid (hend'.out w' v' h47'.out (by rw [hpk.out]; exact hov.out) (hBa.out.trans hbl))
            clear hg3 hbl
            go_wp2_with fail
            exact ⟨hfin.out, by simp [intOf]; omega⟩
        · have hfin := Lib.hid (show out ++ pick1 p = out by
            have h1 : p = [] := List.eq_nil_of_length_eq_zero (by rw [hml.out]; omega)
            rw [h1]; simp [pick1, realB])
          go_wp2_with fail
          exact ⟨hend'.out _ _ h47'.out (by rw [hfin.out]; exact hO'.out) hB'.out, by simp [intOf]; omega⟩
    · have hkn : k = s.size + 1 := by omega
      have hfin := Lib.hid (show out = partsL (nb s) by
        rcases hP'.out with ⟨h, _⟩ | ⟨_, h⟩
        · rw [hnl.out] at h; omega
        · exact h)
      go_wp2_with fail
      go_ret
      rw [← hfin.out]
      exact ⟨_, rfl, hO'.out, hB'.out⟩
end Go.Proofs.YtkocjkndkkhogaaDoor
