/-
  A node is taken away from all that it is linked with.
-/
import Derived.Test.YtgkmmdkagiohgaaDrc
set_option linter.unusedVariables false
set_option linter.unusedSimpArgs false
namespace Go.Proofs.Ytgkmmdkagiohgaa
open Go.RowKit BigFrame
set_option maxRecDepth 100000
variable {w w0 w' wr : World} {B a M : Nat} {G G0 G' : Gr} {ρ : Nat → Nat}

/-- those of D have i no more on their other side -/
structure Un (G G' : Gr) (q i : Nat) (D : List Nat) : Prop where
  ids : G'.ids = G.ids
  nb : G'.nb = G.nb
  same : ∀ j, G'.lk q j = G.lk q j ∧ G'.s j q = G.s j q
  oth : ∀ j ∈ G.ids, ∀ y, y ∈ G'.lk (1 - q) j ↔ y ∈ G.lk (1 - q) j ∧ ¬ (y = i ∧ j ∈ D)
theorem Un.refl (G : Gr) (q i : Nat) : Un G G q i [] := ⟨rfl, rfl, fun _ => ⟨rfl, rfl⟩, fun j _ y => ⟨fun h => ⟨h, fun hh => by cases hh.2⟩, fun h => h.1⟩⟩
structure Ph (G : Gr) (q i : Nat) : Prop where
  lt : q < 2
  nd : (G.lk q i).Nodup
  dual : ∀ j ∈ G.lk q i, j ∈ G.ids ∧ i ∈ G.lk (1 - q) j ∧ j ≠ i
  inn : ∀ j ∈ G.ids, ∀ y ∈ G.lk (1 - q) j, y ∈ G.ids ∧ y ≠ j
/-- so far in going along -/
def LoRel (w0 : World) (B a M : Nat) (G0 G : Gr) (q i k : Nat) (wr : World) : Prop := ∃ G', GrMem wr B a M G' ∧ GStep w0 G0 wr G' ∧ Un G G' q i ((G.lk q i).take k)
theorem lo_step {q i k j : Nat} (h : GrMem w B a M G') (hs : GStep w0 G0 w G') (hu : Un G G' q i ((G.lk q i).take k)) (hp : Ph G q i) (hj : (G.lk q i)[k]? = some j) :
    Calls Try.prog 35 #[.pointer (some ⟨G.nb j, 1 + 2 * (1 - q), none⟩), .pointer (some ⟨G.nb i, 0, none⟩)] w (fun e w' => e = .returned (.tuple #[]) ∧ LoRel w0 B a M G0 G q i (k + 1) w') := by
  obtain ⟨hji, hij, hne⟩ := hp.dual j (List.mem_of_getElem? hj)
  have hq := hp.lt
  have hnt : j ∉ (G.lk q i).take k := fun hm => by
    obtain ⟨n, hn⟩ := List.getElem?_of_mem hm
    rw [List.getElem?_take] at hn
    by_cases h1 : n < k
    · rw [if_pos h1] at hn
      have := nodup_at hp.nd hn hj
      omega
    · rw [if_neg h1] at hn; cases hn
  rw [← hu.nb]
  refine (unlink_c (j := j) (q := 1 - q) (x := i) h (by rw [hu.ids]; exact hji) (by omega) ((hu.oth j hji i).2 ⟨hij, fun hh => hnt hh.2⟩) (fun y hy => by rw [hu.ids]; exact hp.inn j hji y ((hu.oth j hji y).1 hy).1)).mono ?_
  rintro e w' ⟨G2, hret, hG, hst, hids, hnb, hmem, hoth⟩
  refine ⟨hret, G2, hG, hs.trans hst, hids.trans hu.ids, hnb.trans hu.nb, fun j' => ?_, fun j' hj' y => ?_⟩
  · obtain ⟨h1, h2, _⟩ := hoth q j' (fun hh => by omega)
    exact ⟨h1.trans (hu.same j').1, h2.trans (hu.same j').2⟩
  · rw [take_snoc hj]
    by_cases e : j' = j
    · subst e
      rw [hmem, hu.oth j' hj']
      constructor
      · rintro ⟨⟨h1, _⟩, h2⟩; exact ⟨h1, fun hh => h2 hh.1⟩
      · rintro ⟨h1, h2⟩; exact ⟨⟨h1, fun hh => hnt hh.2⟩, fun e => h2 ⟨e, by simp⟩⟩
    · rw [(hoth (1 - q) j' (fun hh => e hh.2)).1, hu.oth j' hj']
      constructor
      · rintro ⟨h1, h2⟩
        exact ⟨h1, fun hh => by
          rcases List.mem_append.1 hh.2 with h3 | h3
          · exact h2 ⟨hh.1, h3⟩
          · simp at h3; exact e h3⟩
      · rintro ⟨h1, h2⟩; exact ⟨h1, fun hh => h2 ⟨hh.1, List.mem_append.2 (.inl hh.2)⟩⟩

def LoosePost (w : World) (B a M : Nat) (G : Gr) (i : Nat) (e : Ending) (w' : World) : Prop :=
  e = .returned (.tuple #[]) ∧ ∃ G', GrMem w' B a M G' ∧ GStep w G w' G' ∧ G'.ids = G.ids ∧ G'.nb = G.nb ∧ ∀ q, q < 2 → ∀ j ∈ G.ids, j ≠ i → ∀ y, y ∈ G'.lk q j ↔ y ∈ G.lk q j ∧ y ≠ i
theorem ph_two {G1 : Gr} {i : Nat} (ho : GOk G ρ) (hi : i ∈ G.ids) (hlow : ∀ j ∈ G.ids, ∀ y ∈ G.lk 0 j, y ≠ j) (hup : ∀ j ∈ G.ids, ∀ y ∈ G.lk 1 j, y ≠ j) (hnd : (G1.lk 1 i).Nodup) (hu : Un G G1 0 i (G.lk 0 i)) : Ph G1 1 i :=
  ⟨by omega, hnd, fun j hj => by
    have h1 := ((hu.oth i hi j).1 hj).1
    have hji := ho.inn 1 (by omega) i hi j h1
    refine ⟨by rw [hu.ids]; exact hji, ?_, hup i hi j h1⟩
    show i ∈ G1.lk 0 j
    rw [(hu.same j).1]
    exact (ho.dual j hji i hi).2 h1, fun j hj y hy => by
    rw [hu.ids] at hj ⊢
    have hy' : y ∈ G1.lk 0 j := hy
    rw [(hu.same j).1] at hy'
    exact ⟨ho.inn 0 (by omega) j hj y hy', hlow j hj y hy'⟩⟩
theorem loose_end {G1 G2 : Gr} {i : Nat} (ho : GOk G ρ) (hi : i ∈ G.ids) (hu : Un G G1 0 i (G.lk 0 i)) (hu2 : Un G1 G2 1 i (G1.lk 1 i)) (q : Nat) (hq : q < 2) (j : Nat) (hj : j ∈ G.ids) (hne : j ≠ i) (y : Nat) : y ∈ G2.lk q j ↔ y ∈ G.lk q j ∧ y ≠ i := by
  rcases (show q = 0 ∨ q = 1 by omega) with rfl | rfl
  · have h1 := hu2.oth j (by rw [hu.ids]; exact hj) y
    have h2 : y ∈ G2.lk 0 j ↔ y ∈ G1.lk 0 j ∧ ¬ (y = i ∧ j ∈ G1.lk 1 i) := h1
    rw [h2, (hu.same j).1]
    constructor
    · rintro ⟨h3, h4⟩
      refine ⟨h3, fun e => h4 ⟨e, (hu.oth i hi j).2 ⟨?_, fun hh => hne hh.1⟩⟩⟩
      rw [e] at h3
      exact (ho.dual j hj i hi).1 h3
    · rintro ⟨h3, h4⟩; exact ⟨h3, fun hh => h4 hh.1⟩
  · rw [(hu2.same j).1]
    have h2 : y ∈ G1.lk 1 j ↔ y ∈ G.lk 1 j ∧ ¬ (y = i ∧ j ∈ G.lk 0 i) := hu.oth j hj y
    rw [h2]
    constructor
    · rintro ⟨h3, h4⟩
      refine ⟨h3, fun e => h4 ⟨e, ?_⟩⟩
      rw [e] at h3
      exact (ho.dual i hi j hj).2 h3
    · rintro ⟨h3, h4⟩; exact ⟨h3, fun hh => h4 hh.1⟩
set_option maxHeartbeats 4000000 in
theorem loose_c {i : Nat} (h : GrMem w B a M G) (ho : GOk G ρ) (hi : i ∈ G.ids) : Calls Try.prog 24 #[.pointer (some ⟨G.nb i, 0, none⟩)] w (LoosePost w B a M G i) := by
  have hlow : ∀ j ∈ G.ids, ∀ y ∈ G.lk 0 j, y ≠ j := fun j hj y hy e => by have := ho.low j hj y hy; rw [e] at this; omega
  have hup : ∀ j ∈ G.ids, ∀ y ∈ G.lk 1 j, y ≠ j := fun j hj y hy e => by
    rw [e] at hy
    exact hlow j hj j ((ho.dual j hj j hj).2 hy) rfl
  have hP0 := Lib.hid (show Ph G 0 i from ⟨by omega, (h.set i hi 0 (by omega)).one, fun j hj => by
    have hji := ho.inn 0 (by omega) i hi j hj
    exact ⟨hji, (ho.dual i hi j hji).1 hj, hlow i hi j hj⟩, fun j hj y hy => ⟨ho.inn 1 (by omega) j hj y hy, hup j hj y hy⟩⟩)
  have hrel0 := Lib.hid (show LoRel w B a M G G 0 i 0 w from ⟨G, h, GStep.refl _ _, Un.refl G 0 i⟩)
  obtain ⟨ad, cap, hsv, _⟩ := (h.set i hi 0 (by omega)).sl.slice
  have c1 := (h.row i hi).cell (k := 1) rfl
  have hsv' : G.s i 0 = _ := hsv
  rw [hsv'] at c1
  have hlen := h.len (by omega) hi (fun y hy => ho.inn 0 (by omega) i hi y hy)
  obtain ⟨n, hn⟩ : ∃ n, (G.lk 0 i).length = n := ⟨_, rfl⟩
  rw [hn] at c1 hlen hsv'
  have hn' := Lib.hid hn
  have hlow' := Lib.hid hlow
  have hup' := Lib.hid hup
  have ho' := Lib.hid ho
  clear h hsv hn hlow hup ho
  go_enter Try.func24, Try.ntmps24
  go_wp2_with fail
  go_loopg [3, 13] n (fun g v3 v13 wr => ∃ k : Nat, k + g = n ∧ v13 = .int .i64 (k : Int) ∧ LoRel w B a M G G 0 i k wr)
  case atStart => exact ⟨0, by omega, rfl, hrel0.out⟩
  case round =>
    obtain ⟨k, hkg, rfl, G', hG, hst, hu⟩ := hrel
    by_cases hk : k < n
    · obtain ⟨g, rfl⟩ : ∃ g, gk = g + 1 := ⟨gk - 1, by omega⟩
      obtain ⟨j, hj⟩ : ∃ j, (G.lk 0 i)[k]? = some j := ⟨(G.lk 0 i)[k]'(by rw [hn'.out]; exact hk), List.getElem?_eq_getElem _⟩
      obtain ⟨gl, hgl, cx⟩ := (hG.set i (by rw [hu.ids]; exact hi) 0 (by omega)).sl.at ((hu.same i).2.trans hsv') (by rw [(hu.same i).1]; exact hj)
      subst hgl
      rw [hu.nb] at cx
      unfold pv at cx
      have hc := Lib.hid (lo_step hG hst hu hP0.out hj)
      clear hG hst hu hj
      go_wp2_with fail
      go_at_call 35
      refine hc.out.mono ?_
      rintro e w2 ⟨rfl, hr⟩
      have hr' := Lib.hid hr
      clear hr
      go_wp2_with fail
      go_roundg g
      case measure => omega
      case rel => exact ⟨k + 1, by omega, by go_num, hr'.out⟩
    · have hke : k = n := by omega
      subst hke
      have hu1 : Un G G' 0 i (G.lk 0 i) := by rw [List.take_of_length_le (by rw [hn'.out]; omega)] at hu; exact hu
      have hi1 : i ∈ G'.ids := by rw [hu.ids]; exact hi
      have hP1 := Lib.hid (ph_two ho'.out hi hlow'.out hup'.out (hG.set i hi1 1 (by omega)).one hu1)
      have hrel1 := Lib.hid (show LoRel w B a M G G' 1 i 0 wr from ⟨G', hG, hst, Un.refl G' 1 i⟩)
      obtain ⟨ad2, cap2, hsv2, _⟩ := (hG.set i hi1 1 (by omega)).sl.slice
      have c2 := (hG.row i hi1).cell (k := 3) rfl
      have hsv2' : G'.s i 1 = _ := hsv2
      rw [hsv2', hu.nb] at c2
      have hlen2 := hG.len (q := 1) (by omega) hi1 (fun y hy => by rw [hu.ids]; exact ho'.out.inn 1 (by omega) i hi y ((hu1.oth i hi y).1 hy).1)
      obtain ⟨n2, hn2⟩ : ∃ n2, (G'.lk 1 i).length = n2 := ⟨_, rfl⟩
      rw [hn2] at c2 hlen2 hsv2'
      have hn2' := Lib.hid hn2
      have hu1' := Lib.hid hu1
      have hnb1 := Lib.hid hu.nb
      clear hG hst hu hu1 hsv2 hn2
      go_wp2_with fail
      go_loopg [5, 31] n2 (fun g v5 v31 wr => ∃ k : Nat, k + g = n2 ∧ v31 = .int .i64 (k : Int) ∧ LoRel w B a M G G' 1 i k wr)
      case atStart => exact ⟨0, by omega, rfl, hrel1.out⟩
      case round =>
        obtain ⟨k, hkg, rfl, G2, hG, hst, hu⟩ := hrel
        by_cases hk : k < n2
        · obtain ⟨g, rfl⟩ : ∃ g, gk = g + 1 := ⟨gk - 1, by omega⟩
          obtain ⟨j, hj⟩ : ∃ j, (G'.lk 1 i)[k]? = some j := ⟨(G'.lk 1 i)[k]'(by rw [hn2'.out]; exact hk), List.getElem?_eq_getElem _⟩
          obtain ⟨gl, hgl, cx⟩ := (hG.set i (by rw [hu.ids]; exact hi1) 1 (by omega)).sl.at ((hu.same i).2.trans hsv2') (by rw [(hu.same i).1]; exact hj)
          subst hgl
          rw [hu.nb, hnb1.out] at cx
          unfold pv at cx
          have hc := Lib.hid (lo_step hG hst hu hP1.out hj)
          rw [hnb1.out] at hc
          clear hG hst hu hj
          go_wp2_with fail
          go_at_call 35
          refine hc.out.mono ?_
          rintro e w2 ⟨rfl, hr⟩
          have hr' := Lib.hid hr
          clear hr
          go_wp2_with fail
          go_roundg g
          case measure => omega
          case rel => exact ⟨k + 1, by omega, by go_num, hr'.out⟩
        · have hke : k = n2 := by omega
          subst hke
          have hu2 : Un G' G2 1 i (G'.lk 1 i) := by rw [List.take_of_length_le (by rw [hn2'.out]; omega)] at hu; exact hu
          have hfin := Lib.hid (show LoosePost w B a M G i (.returned (.tuple #[])) wr from ⟨rfl, G2, hG, hst, hu2.ids.trans hu1'.out.ids, hu2.nb.trans hu1'.out.nb, loose_end ho'.out hi hu1'.out hu2⟩)
          clear hG hst hu hu2
          go_wp2_with fail
          go_end0
          exact hfin.out
end Go.Proofs.Ytgkmmdkagiohgaa
