/-
  Strings as lists of bytes; bytes as a string.
-/
import Derived.Test.YtkocjkndkkhogaaDoorRw
import Derived.Laws.IdiomStrings
import Derived.Lib.BufferRead
namespace Go.Proofs.YtkocjkndkkhogaaDoor
open Go.RowKit BigFrame

/-- bytes as a string -/
def strOf (l : List Nat) : ByteArray := ⟨(l.map UInt8.ofNat).toArray⟩
theorem strOf_toList (l : List Nat) : (strOf l).toList = l.map UInt8.ofNat := by
  unfold strOf
  rw [ByteArray.toList_mk]
theorem strOf_inj {l m : List Nat} (hl : Octs l) (hm : Octs m) (h : (strOf l).toList = (strOf m).toList) : l = m := by
  rw [strOf_toList, strOf_toList] at h
  have hlen : l.length = m.length := by simpa using congrArg List.length h
  refine bz_ext hlen fun k hk => ?_
  have h1 := hl k hk
  have h2 := hm k (by omega)
  have h3 := congrArg (fun x => x[k]?) h
  simp only [List.getElem?_map, List.getElem?_eq_getElem hk, List.getElem?_eq_getElem (show k < m.length by omega), Option.map_some, Option.some.injEq] at h3
  rw [← bz_get hk, ← bz_get (show k < m.length by omega)] at h3
  have h4 := congrArg UInt8.toNat h3
  simp only [UInt8.toNat_ofNat'] at h4
  omega
theorem strOf_ne {l m : List Nat} (hl : Octs l) (hm : Octs m) (h : l ≠ m) : ((strOf l).toList == (strOf m).toList) = false := by
  rw [beq_eq_false_iff_ne]
  exact fun e => h (strOf_inj hl hm e)

theorem run_string {w : World} {a : Option Addr} {n cap : Nat} {l : List Nat} (hn : l.length = n) (ho : Octs l) (hx : BAt w a l) :
    (convert 39 9 (.slice a n cap)).run Tryd.prog w = .ok (.string (strOf l)) w := by
  subst hn
  cases a with
  | none =>
    have h0 : l = [] := by
      rcases hx with h | ⟨_, _, e, _⟩
      · exact List.eq_nil_of_length_eq_zero h
      · cases e
    subst h0
    exact Lib.run_convert_nil_bytes w _ _ _ cap Tryd.underlying39 Tryd.underlying5 Tryd.underlying9
  | some ad =>
    have h := run_convert_bytes_back (P := Tryd.prog) w 39 9 5 ad cap (l.map UInt8.ofNat) Tryd.underlying39 Tryd.underlying5 Tryd.underlying9 (by
      intro j hj
      rw [List.length_map] at hj
      obtain ⟨b, off, e⟩ := hx.addr (by omega)
      obtain rfl := Option.some.inj e
      have h1 := ho j hj
      rw [addr_add, hx.cell hj, List.getElem_map, ← bz_get hj]
      congr 2
      simp only [UInt8.toNat_ofNat']
      omega)
    rw [List.length_map] at h
    exact h

/-- a string's bytes -/
def nb (s : ByteArray) : List Nat := s.data.toList.map UInt8.toNat
theorem nb_length (s : ByteArray) : (nb s).length = s.size := by simp [nb]
theorem nb_octs (s : ByteArray) : Octs (nb s) := octs_mem fun x hx => by
  obtain ⟨b, _, rfl⟩ := List.mem_map.1 hx
  exact b.toNat_lt
theorem nb_inj {s t : ByteArray} (h : nb s = nb t) : s = t := by
  obtain ⟨⟨a⟩⟩ := s
  obtain ⟨⟨b⟩⟩ := t
  have e : a = b := by
    unfold nb at h
    exact (List.map_inj_right (fun x y hxy => UInt8.toNat_inj.1 hxy)).1 h
  rw [e]
theorem nb_strOf {l : List Nat} (h : Octs l) : nb (strOf l) = l := by
  unfold nb strOf
  show (l.map UInt8.ofNat).map UInt8.toNat = l
  rw [List.map_map]
  refine (List.map_congr_left fun x hx => ?_).trans (List.map_id l)
  have := h.mem x hx
  simp only [Function.comp, UInt8.toNat_ofNat', id]
  omega
theorem strOf_nb (s : ByteArray) : strOf (nb s) = s := nb_inj (nb_strOf (nb_octs s))
theorem toList_nb (s t : ByteArray) : (s.toList == t.toList) = decide (s = t) := by
  by_cases h : s = t
  · subst h; simp
  · rw [decide_eq_false h, beq_eq_false_iff_ne]
    intro e
    refine h ?_
    obtain ⟨⟨a⟩⟩ := s
    obtain ⟨⟨b⟩⟩ := t
    rw [ByteArray.toList_mk, ByteArray.toList_mk] at e
    rw [e]
end Go.Proofs.YtkocjkndkkhogaaDoor
