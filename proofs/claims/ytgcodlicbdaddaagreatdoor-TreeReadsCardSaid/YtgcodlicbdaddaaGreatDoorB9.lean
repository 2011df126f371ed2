/-
  bytes.Clone: a copy of its own.
  A node: how long it is; its bytes read.
  What holds of every tree that operations make.
  How many blocks a size takes, and where a block's pointer stands: the program's answer, and the document's own.
  How many blocks a node takes.
-/
import Derived.Test.YtgcodlicbdaddaaGreatDoorB8
import Derived.WalkSpells
import Derived.Test.YtgcodlicbdaddaaGreatDoorB6
import Derived.Test.YtgcodlicbdaddaaGreatDoorB1
import Derived.Test.YtgcodlicbdaddaaGreatDoorB3

section
set_option linter.unusedVariables false
set_option linter.unusedSimpArgs false
namespace Go.Proofs.YtgcodlicbdaddaaGreatDoor
open Go.RowKit BigFrame

set_option maxHeartbeats 400000 in
theorem clone_any (a : Option Addr) (cap n : Nat) (l : List Nat) (w : World) (hl : l.length = n) (hn : n ≤ 100000) (hx : BAt w a l) (hnil : a = none → cap = 0) :
    Calls Tryz.prog 121 #[.slice a n cap] w (GivesB l w) := by
  have q22 : ∀ (w : World) (a : Option Addr) (n c n' c' : Nat), (binOp .eql 31 (.slice a n c) (.slice none n' c')).run Tryz.prog w = .ok (.bool a.isNone) w := fun w a n c n' c' => Lib.run_eql_slice_nil w _ _ a n c n' c' Tryz.underlying31
  cases a with
  | none =>
    have e : l = [] := by
      rcases hx with h | ⟨_, _, e, _⟩
      · exact List.eq_nil_of_length_eq_zero h
      · cases e
    subst e
    go_enter Tryz.func121, Tryz.ntmps121
    go_wp2_with fail
    go_ret
    exact ⟨_, rfl, OwnB.nil _ _, Below.refl _ _⟩
  | some ad =>
    have hx' := Lib.hid hx
    have hl' := Lib.hid hl
    have O0 := Lib.hid (show OwnB (w.alloc (.cells #[] 5)) w.heap.size (.slice (some ⟨w.heap.size, 0, none⟩) 0 0) [] from OwnB.made w [] w.heap.size (Nat.le_refl _) (by simp))
    have B0 := Lib.hid ((Below.refl w.heap.size w).alloc (Nat.le_refl _) (.cells #[] 5))
    clear hx hl
    go_enter Tryz.func121, Tryz.ntmps121
    go_wp2_with (at_builtin; refine wpList_append_bytes rfl (.tmp 5) (.tmp 6) rfl w.heap.size _ [] rfl O0.out (some ad) n cap l rfl hl'.out (hx'.out.on B0.out (Nat.le_refl _)) (fun h => by cases h) (by simpa using by omega) B0.out.size ?_; intro v2 w2 ho2 hg2 hb2; have B2 := Lib.hid (B0.out.trans hb2); clear hb2 hg2)
    go_ret
    exact ⟨_, rfl, ho2.out, B2.out⟩
end Go.Proofs.YtgcodlicbdaddaaGreatDoor
end

section
set_option linter.unusedVariables false
set_option linter.unusedSimpArgs false
namespace Go.Proofs.YtgcodlicbdaddaaGreatDoor
open Go.RowKit BigFrame
set_option maxRecDepth 100000

/-- a number held against a constant -/
theorem nat_beq {a b : Nat} (h : a = b) : (((a : Nat) : Int) == ((b : Nat) : Int)) = true := by rw [h]; simp
theorem nat_beq_ne {a b : Nat} (h : a ≠ b) : (((a : Nat) : Int) == ((b : Nat) : Int)) = false := by rw [beq_eq_false_iff_ne]; omega
section
variable {B a i : Nat} {x : Nd} {v en : Value}
theorem size_any (w : World) (h : NodeAt w B a i x v en) :
    Calls Tryz.prog 139 #[.pointer (some ⟨a, 0, none⟩)] w fun e w' => e = .returned (.int .i64 ((x.size : Nat) : Int)) ∧ w = w' := by
  have ck := h.kind
  by_cases hk : x.kind = 2
  · obtain ⟨b, rfl, hb, hm⟩ := h.ents.dir hk
    have ce := h.ent
    have hz := Lib.hid (show x.ents.length = x.size by unfold Nd.size; rw [if_pos hk])
    have he := Lib.hid (show (entsL x.ents).length = x.ents.length by simp [entsL])
    have hlen := hm.len Tryz.underlying74 3
    rw [hk] at ck
    clear h hm hk
    go_enter Tryz.func139, Tryz.ntmps139
    go_wp2_with fail
    go_ret
    exact ⟨by rw [he.out, hz.out]; rfl, rfl⟩
  · have cd := h.dat
    obtain ⟨p, cap, rfl, _, _, _⟩ := h.data.slice
    have t0 : (((x.kind : Nat) : Int) == 2) = false := nat_beq_ne (b := 2) hk
    have hz := Lib.hid (show x.data.length = x.size by unfold Nd.size; rw [if_neg hk])
    clear h hk
    go_enter Tryz.func139, Tryz.ntmps139
    go_wp2_with fail
    go_ret
    exact ⟨by rw [hz.out]; rfl, rfl⟩
set_option maxHeartbeats 1000000 in
theorem nodeRead_any (n k : Nat) (w : World) (h : NodeAt w B a i x v en) :
    Calls Tryz.prog 136 #[.pointer (some ⟨a, 0, none⟩), .int .i64 ((n : Nat) : Int), .int .i64 ((k : Nat) : Int)] w (GivesB (x.read n k) w) := by
  have cd := h.dat
  obtain ⟨p, cap, rfl, hp, hnil, hle⟩ := h.data.slice
  by_cases hn : x.data.length ≤ n
  · have d0 : decide (x.data.length ≤ n) = true := decide_eq_true hn
    have hz := Lib.hid (show x.read n k = [] by unfold Nd.read; rw [List.drop_of_length_le hn, List.take_nil])
    clear h hp
    go_enter Tryz.func136, Tryz.ntmps136
    go_wp2_with fail
    go_ret
    rw [hz.out]
    exact ⟨_, rfl, OwnB.nil _ _, Below.refl _ _⟩
  · have d0 : decide (x.data.length ≤ n) = false := decide_eq_false hn
    obtain ⟨g, cap', e, hc, _, _, hb⟩ := h.data.form (by omega)
    simp only [Value.slice.injEq] at e
    obtain ⟨rfl, _, rfl⟩ := e
    have k1 : n ≤ x.data.length := by omega
    have k2 : ¬ cap = n := by omega
    have hx := Lib.hid (hp.sub n k)
    rw [Nat.zero_add] at hx
    have hdl := Lib.hid h.dl
    have hz := Lib.hid (show (x.data.drop n).take k = x.read n k from rfl)
    have hl := Lib.hid (show ((x.data.drop n).take k).length = min k (x.data.length - n) by rw [List.length_take, List.length_drop])
    clear h hp hn hb hnil
    by_cases hkm : x.data.length - n < k
    · have d1 : decide (x.data.length - n < k) = true := decide_eq_true hkm
      go_enter Tryz.func136, Tryz.ntmps136
      go_wp2_with (go_at_call 121; refine (clone_any _ _ _ ((x.data.drop n).take k) _ (by rw [hl.out]; omega) (by have := hdl.out; omega) hx.out (fun h => by cases h)).mono ?_; rintro e w1 ⟨v1, rfl, ho, hb⟩; have hb1 := Lib.hid hb; have ho1 := Lib.hid ho; clear hb ho)
      go_ret
      rw [← hz.out]
      exact ⟨_, rfl, ho1.out, hb1.out⟩
    · have d1 : decide (x.data.length - n < k) = false := decide_eq_false hkm
      have d2 : k ≤ x.data.length - n := by omega
      go_enter Tryz.func136, Tryz.ntmps136
      go_wp2_with (go_at_call 121; refine (clone_any _ _ _ ((x.data.drop n).take k) _ (by rw [hl.out]; omega) (by have := hdl.out; omega) hx.out (fun h => by cases h)).mono ?_; rintro e w1 ⟨v1, rfl, ho, hb⟩; have hb1 := Lib.hid hb; have ho1 := Lib.hid ho; clear hb ho)
      go_ret
      rw [← hz.out]
      exact ⟨_, rfl, ho1.out, hb1.out⟩
end
end Go.Proofs.YtgcodlicbdaddaaGreatDoor
end

section
set_option linter.unusedVariables false
set_option linter.unusedSimpArgs false
namespace Go.Proofs.YtgcodlicbdaddaaGreatDoor

/-- a name that may be -/
structure NameP (p : List Nat) : Prop where
  octs : Octs p
  real : p ≠ [] ∧ p ≠ dot ∧ p ≠ dots
  slash : 47 ∉ p
  zero : 0 ∉ p
  long : p.length ≤ 24
/-- how many entries name a node -/
def refsE (i : Nat) (l : List (List Nat × Nat)) : Nat := (l.filter fun e => e.2 == i).length
def refsO (i : Nat) : Option Nd → Nat
  | none => 0
  | some x => refsE i x.ents
def refsL (i : Nat) : List (Option Nd) → Nat
  | [] => 0
  | x :: r => refsO i x + refsL i r
structure NodeOk (b : Nat) (x : Nd) : Prop where
  kind : x.kind = 1 ∨ x.kind = 2 ∨ x.kind = 3
  noent : x.kind ≠ 2 → x.ents = [] ∧ x.up = 0
  link : x.kind = 3 → codeS 100 x.data = 0
  dir : x.kind = 2 → x.data = []
  sorted : x.ents.Pairwise fun p q => p.1 < q.1
  names : ∀ e ∈ x.ents, NameP e.1
  links : x.links ≤ b
  most : x.most ≤ b
  few : x.ents.length ≤ b
  nm : Octs x.nm
  nml : x.nm.length ≤ 24
structure Ok (b : Nat) (s : Tr) : Prop where
  root : s.opt 1 ≠ none ∧ (s.at 1).kind = 2 ∧ (s.at 1).up = 0
  zero : s.opt 0 = none
  len : 2 ≤ s.nd.length ∧ s.nd.length ≤ b + 2
  each : ∀ i x, s.opt i = some x → NodeOk b x
  ent : ∀ i x, s.opt i = some x → ∀ e ∈ x.ents, ∃ y, s.opt e.2 = some y ∧ (y.kind = 2 → y.up = i ∧ y.nm = e.1)
  up : ∀ i x, s.opt i = some x → x.up ≠ 0 → ∃ y, s.opt x.up = some y ∧ y.kind = 2 ∧ (x.nm, i) ∈ y.ents
  dep : ∃ d : Nat → Nat, ∀ i x, s.opt i = some x → x.up ≠ 0 → d i = d x.up + 1 ∧ d i ≤ 20
  cnt : ∀ i x, s.opt i = some x → x.links = refsL i s.nd + (if i = 1 then 1 else 0)
  lost : ∀ i x, s.opt i = some x → x.kind = 2 → i ≠ 1 → x.up = 0 → x.ents = [] ∧ x.links = 0
  held : ∀ i x, s.opt i = some x → x.links = 0 → heldB s.tb i 16 = true
  tabs : s.tb.length = 16 ∧ ∀ k, k < 16 → (pl s.tb k).on = true → ∃ i x, (pl s.tb k).nd = ((i : Nat) : Int) ∧ s.opt i = some x ∧ x.kind ≠ 3 ∧ 0 ≤ (pl s.tb k).fl ∧ (pl s.tb k).fl ≤ 63 ∧ 0 ≤ (pl s.tb k).off ∧ (pl s.tb k).off ≤ 1099511627776 ∧ (bitF (pl s.tb k).fl 32 = true → x.kind = 1)

theorem Ok.alive {b : Nat} {s : Tr} (h : Ok b s) : s.opt 1 = some (s.at 1) := by
  cases e : s.opt 1 with
  | none => exact absurd e h.root.1
  | some x => rw [Tr.at_of e]
/-- the node of a name is there -/
theorem look_mem : ∀ {l : List (List Nat × Nat)} {p : List Nat} {j : Nat}, lookE l p = j → j ≠ 0 → (p, j) ∈ l
  | [], p, j, h, h0 => absurd h.symm h0
  | e :: r, p, j, h, h0 => by
    unfold lookE at h
    by_cases he : e.1 = p
    · rw [if_pos he] at h
      subst he; subst h
      exact List.mem_cons_self
    · rw [if_neg he] at h
      exact List.mem_cons_of_mem _ (look_mem h h0)
/-- the way up does not hang on the fuel -/
theorem pathF_more {s : Tr} {b : Nat} (h : Ok b s) {d : Nat → Nat} (hd : ∀ i x, s.opt i = some x → x.up ≠ 0 → d i = d x.up + 1 ∧ d i ≤ 20) :
    ∀ (n i : Nat) (x : Nd), s.opt i = some x → (x.up = 0 ∨ d i ≤ n) → ∀ k, n < k → s.pathF k i = s.pathF (n + 1) i
  | n, i, x, hx, hu, k, hk => by
    obtain ⟨k, rfl⟩ : ∃ j, k = j + 1 := ⟨k - 1, by omega⟩
    have ha := Tr.at_of hx
    unfold Tr.pathF
    rw [ha]
    by_cases h0 : x.up = 0
    · rw [if_pos h0, if_pos h0]
    · rw [if_neg h0, if_neg h0]
      obtain ⟨h1, h2⟩ := hd i x hx h0
      obtain ⟨y, hy, _⟩ := h.up i x hx h0
      match n, hu, hk with
      | 0, hu, _ => omega
      | n + 1, hu, hk => rw [pathF_more h hd n x.up y hy (by omega) k (by omega)]
theorem Ok.path_up {s : Tr} {b : Nat} (h : Ok b s) {i : Nat} {x : Nd} (hx : s.opt i = some x) (hu : x.up ≠ 0) : s.path i = s.path x.up ++ [x.nm] := by
  obtain ⟨d, hd⟩ := h.dep
  obtain ⟨h1, h2⟩ := hd i x hx hu
  obtain ⟨y, hy, _⟩ := h.up i x hx hu
  have ha := Tr.at_of hx
  unfold Tr.path
  rw [show (21 : Nat) = 20 + 1 from rfl, Tr.pathF, ha, if_neg hu]
  rw [pathF_more h hd 19 x.up y hy (by omega) 20 (by omega), pathF_more h hd 19 x.up y hy (by omega) 21 (by omega)]
theorem Tr.path_root {s : Tr} {i : Nat} (hu : (s.at i).up = 0) : s.path i = [] := by
  unfold Tr.path
  rw [show (21 : Nat) = 20 + 1 from rfl, Tr.pathF, if_pos hu]
theorem pathF_len (s : Tr) : ∀ k i, (s.pathF k i).length ≤ k
  | 0, _ => Nat.le_refl _
  | k + 1, i => by
    unfold Tr.pathF
    split
    · simp
    · rw [List.length_append, List.length_singleton]
      have := pathF_len s k (s.at i).up
      omega
theorem Tr.path_len (s : Tr) (i : Nat) : (s.path i).length ≤ 21 := pathF_len s 21 i
theorem Ok.nm_le {s : Tr} {b : Nat} (h : Ok b s) (i : Nat) : (s.at i).nm.length ≤ 24 := by
  unfold Tr.at
  cases e : s.opt i with
  | none => simp [nd0]
  | some x => exact (h.each i x e).nml
theorem pathF_size {s : Tr} {b : Nat} (h : Ok b s) : ∀ k i, sizeL (s.pathF k i) ≤ 25 * k
  | 0, _ => Nat.le_refl _
  | k + 1, i => by
    unfold Tr.pathF
    split
    · simp [sizeL]
    · rw [sizeL_append]
      have h1 := pathF_size h k (s.at i).up
      have h2 := h.nm_le i
      have h3 : sizeL [(s.at i).nm] = (s.at i).nm.length + 1 := by simp [sizeL]; try omega
      omega
theorem Ok.path_size {s : Tr} {b : Nat} (h : Ok b s) (i : Nat) : sizeL (s.path i) ≤ 525 := pathF_size h 21 i
/-! ### Names -/
theorem codeL_parts {l : List Nat} (h : codeL l = 0) : codeP l = 0 ∧ partsL l ≠ [] ∧ (partsL l).getLast? ≠ some dots := by
  unfold codeL at h
  by_cases hp : codeP l = 0
  · rw [if_pos hp] at h
    by_cases h2 : partsL l = [] ∨ (partsL l).getLast? = some dots
    · rw [if_pos h2] at h; exact absurd h (by decide)
    · exact ⟨hp, fun e => h2 (.inl e), fun e => h2 (.inr e)⟩
  · rw [if_neg hp] at h; exact absurd h hp
theorem lastL_mem {l : List Nat} (h : codeL l = 0) : lastL l ∈ partsL l ∧ lastL l ≠ dots := by
  obtain ⟨_, h1, h2⟩ := codeL_parts h
  unfold lastL
  rw [if_pos h]
  cases hg : (partsL l).getLast? with
  | none => exact absurd (List.getLast?_eq_none_iff.1 hg) h1
  | some p =>
    rw [Option.getD_some]
    exact ⟨List.mem_of_getLast? hg, fun e => h2 (by rw [hg, e])⟩
theorem last_name {l : List Nat} (ho : Octs l) (h : codeL l = 0) : NameP (lastL l) := by
  obtain ⟨h1, h2⟩ := lastL_mem h
  obtain ⟨hp, _, _⟩ := codeL_parts h
  obtain ⟨hs, hr, hx⟩ := partsL_mem h1
  obtain ⟨hr1, hr2⟩ := realB_iff.1 hr
  obtain ⟨_, hz, _, hl⟩ := codeP_zero.1 hp
  exact ⟨OctsL.parts ho _ h1, ⟨hr1, hr2, h2⟩, hs, fun h0 => hz (hx 0 h0), (longL_no.1 hl).1 _ h1⟩
theorem head_octs {l : List Nat} (ho : Octs l) : Octs (headL l) := by
  unfold headL
  split
  · exact OctsL.join (OctsL.sub (OctsL.parts ho) (List.dropLast_sublist _))
  · intro k hk; exact absurd hk (Nat.not_lt_zero _)
end Go.Proofs.YtgcodlicbdaddaaGreatDoor
end

section
set_option linter.unusedVariables false
set_option linter.unusedSimpArgs false
namespace Go.Proofs.YtgcodlicbdaddaaGreatDoor
open Go.RowKit BigFrame

def needZ (n : Int) : Int := if n < 1 then 0 else if 20736 ≤ n then 162 else (n + 127) / 128
def placeZ (k : Int) : Value :=
  if k < 0 ∨ 162 ≤ k then .tuple #[.int .i64 (-1), .int .i64 (-1), .int .i64 (-1)]
  else if k < 6 then .tuple #[.int .i64 0, .int .i64 k, .int .i64 0]
  else if k < 18 then .tuple #[.int .i64 1, .int .i64 (k - 6), .int .i64 0]
  else .tuple #[.int .i64 2, .int .i64 ((k - 18) / 12), .int .i64 ((k - 18) % 12)]

theorem need_any (n : Int) (w : World) :
    Calls Tryz.prog 172 #[.int .i64 n] w fun e w' => e = .returned (.int .i64 (needZ n)) ∧ w = w' := by
  by_cases h1 : n < 1
  · have hv := Lib.hid (show needZ n = 0 by unfold needZ; rw [if_pos h1])
    go_enter Tryz.func172, Tryz.ntmps172
    go_wp2_with fail
    go_ret
    exact ⟨by rw [hv.out]; rfl, rfl⟩
  · by_cases h2 : 20736 ≤ n
    · have hv := Lib.hid (show needZ n = 162 by unfold needZ; rw [if_neg h1, if_pos h2])
      go_enter Tryz.func172, Tryz.ntmps172
      go_wp2_with fail
      go_ret
      exact ⟨by rw [hv.out]; rfl, rfl⟩
    · obtain ⟨m, rfl⟩ : ∃ m : Nat, n = (m : Int) := ⟨n.toNat, by omega⟩
      have hv := Lib.hid (show needZ (m : Int) = ((m : Int) + 127) / 128 by unfold needZ; rw [if_neg h1, if_neg h2])
      have e : (m : Int) + 128 - 1 = (m : Int) + 127 := by omega
      go_enter Tryz.func172, Tryz.ntmps172
      go_wp2_with fail
      go_ret
      refine ⟨ret_int ?_, rfl⟩
      rw [hv.out]
theorem place_any (k : Int) (w : World) :
    Calls Tryz.prog 117 #[.int .i64 k] w fun e w' => e = .returned (placeZ k) ∧ w = w' := by
  by_cases h1 : k < 0
  · have hv := Lib.hid (show placeZ k = .tuple #[.int .i64 (-1), .int .i64 (-1), .int .i64 (-1)] by unfold placeZ; rw [if_pos (.inl h1)])
    go_enter Tryz.func117, Tryz.ntmps117
    go_wp2_with fail
    go_ret3
    exact ⟨by rw [hv.out]; rfl, rfl⟩
  · by_cases h2 : 162 ≤ k
    · have hv := Lib.hid (show placeZ k = .tuple #[.int .i64 (-1), .int .i64 (-1), .int .i64 (-1)] by unfold placeZ; rw [if_pos (.inr h2)])
      go_enter Tryz.func117, Tryz.ntmps117
      go_wp2_with fail
      go_ret3
      exact ⟨by rw [hv.out]; rfl, rfl⟩
    · by_cases h3 : k < 6
      · have hv := Lib.hid (show placeZ k = .tuple #[.int .i64 0, .int .i64 k, .int .i64 0] by unfold placeZ; rw [if_neg (by omega), if_pos h3])
        go_enter Tryz.func117, Tryz.ntmps117
        go_wp2_with fail
        go_ret3
        exact ⟨by rw [hv.out]; rfl, rfl⟩
      · by_cases h4 : k < 18
        · have hv := Lib.hid (show placeZ k = .tuple #[.int .i64 1, .int .i64 (k - 6), .int .i64 0] by unfold placeZ; rw [if_neg (by omega), if_neg h3, if_pos h4])
          go_enter Tryz.func117, Tryz.ntmps117
          go_wp2_with fail
          go_ret3
          exact ⟨by rw [hv.out]; rfl, rfl⟩
        · obtain ⟨m, hm⟩ : ∃ m : Nat, k - 18 = (m : Int) := ⟨(k - 18).toNat, by omega⟩
          have hv := Lib.hid (show placeZ k = .tuple #[.int .i64 2, .int .i64 ((k - 18) / 12), .int .i64 ((k - 18) % 12)] by unfold placeZ; rw [if_neg (by omega), if_neg h3, if_neg h4])
          rw [hm] at hv
          go_enter Tryz.func117, Tryz.ntmps117
          go_wp2_with fail
          go_ret3
          exact ⟨by rw [hv.out]; rfl, rfl⟩
theorem refNeed_any (n : Int) (w : World) :
    Calls Tryz.prog 152 #[.int .i64 n] w fun e w' => e = .returned (.int .i64 (needZ n)) ∧ w = w' := by
  by_cases h1 : n < 1
  · have hv := Lib.hid (show needZ n = 0 by unfold needZ; rw [if_pos h1])
    go_enter Tryz.func152, Tryz.ntmps152
    go_wp2_with fail
    go_ret
    exact ⟨by rw [hv.out]; rfl, rfl⟩
  · by_cases h2 : 20736 ≤ n
    · have hv := Lib.hid (show needZ n = 162 by unfold needZ; rw [if_neg h1, if_pos h2])
      go_enter Tryz.func152, Tryz.ntmps152
      go_wp2_with fail
      go_ret
      exact ⟨by rw [hv.out]; rfl, rfl⟩
    · obtain ⟨m, rfl⟩ : ∃ m : Nat, n = (m : Int) := ⟨n.toNat, by omega⟩
      have hv := Lib.hid (show needZ (m : Int) = ((m : Int) + 127) / 128 by unfold needZ; rw [if_neg h1, if_neg h2])
      have e : (m : Int) + 128 - 1 = (m : Int) + 127 := by omega
      go_enter Tryz.func152, Tryz.ntmps152
      go_wp2_with fail
      go_ret
      refine ⟨ret_int ?_, rfl⟩
      rw [hv.out]
theorem refPlace_any (k : Int) (w : World) :
    Calls Tryz.prog 118 #[.int .i64 k] w fun e w' => e = .returned (placeZ k) ∧ w = w' := by
  by_cases h1 : k < 0
  · have hv := Lib.hid (show placeZ k = .tuple #[.int .i64 (-1), .int .i64 (-1), .int .i64 (-1)] by unfold placeZ; rw [if_pos (.inl h1)])
    go_enter Tryz.func118, Tryz.ntmps118
    go_wp2_with fail
    go_ret3
    exact ⟨by rw [hv.out]; rfl, rfl⟩
  · by_cases h2 : 162 ≤ k
    · have hv := Lib.hid (show placeZ k = .tuple #[.int .i64 (-1), .int .i64 (-1), .int .i64 (-1)] by unfold placeZ; rw [if_pos (.inr h2)])
      go_enter Tryz.func118, Tryz.ntmps118
      go_wp2_with fail
      go_ret3
      exact ⟨by rw [hv.out]; rfl, rfl⟩
    · by_cases h3 : k < 6
      · have hv := Lib.hid (show placeZ k = .tuple #[.int .i64 0, .int .i64 k, .int .i64 0] by unfold placeZ; rw [if_neg (by omega), if_pos h3])
        go_enter Tryz.func118, Tryz.ntmps118
        go_wp2_with fail
        go_ret3
        exact ⟨by rw [hv.out]; rfl, rfl⟩
      · by_cases h4 : k < 18
        · have hv := Lib.hid (show placeZ k = .tuple #[.int .i64 1, .int .i64 (k - 6), .int .i64 0] by unfold placeZ; rw [if_neg (by omega), if_neg h3, if_pos h4])
          go_enter Tryz.func118, Tryz.ntmps118
          go_wp2_with fail
          go_ret3
          exact ⟨by rw [hv.out]; rfl, rfl⟩
        · obtain ⟨m, hm⟩ : ∃ m : Nat, k - 18 = (m : Int) := ⟨(k - 18).toNat, by omega⟩
          have hv := Lib.hid (show placeZ k = .tuple #[.int .i64 2, .int .i64 ((k - 18) / 12), .int .i64 ((k - 18) % 12)] by unfold placeZ; rw [if_neg (by omega), if_neg h3, if_neg h4])
          rw [hm] at hv
          go_enter Tryz.func118, Tryz.ntmps118
          go_wp2_with fail
          go_ret3
          refine ⟨show Ending.returned (.tuple #[.int .i64 2, .int .i64 ((k - 6 - 12) / 12), .int .i64 ((k - 6) % 12)]) = _ from ?_, rfl⟩
          rw [hv.out, show (k - 6 - 12) / 12 = (m : Int) / 12 by omega, show (k - 6) % 12 = (m : Int) % 12 by omega]
end Go.Proofs.YtgcodlicbdaddaaGreatDoor
end

section
set_option linter.unusedVariables false
set_option linter.unusedSimpArgs false
namespace Go.Proofs.YtgcodlicbdaddaaGreatDoor
open Go.RowKit BigFrame
set_option maxRecDepth 100000

/-! ### Counted -/
def oneN (b : Bool) : Nat := if b = true then 1 else 0
/-- those that are set below k -/
def cntU (l : List Bool) : Nat → Nat
  | 0 => 0
  | k + 1 => cntU l k + oneN (l.getD k false)
/-- is one of a kind set below k? -/
def hitU (l : List Bool) (p : Nat → Bool) : Nat → Bool
  | 0 => false
  | k + 1 => hitU l p k || (l.getD k false && p k)
def inS (j : Nat) : Bool := decide (6 ≤ j) && decide (j < 18)
def inD (j : Nat) : Bool := decide (18 ≤ j)
def inP (i j : Nat) : Bool := decide (18 + 12 * i ≤ j) && decide (j < 18 + 12 * i + 12)
/-- the second pointer blocks, one by one -/
def secL (l : List Bool) (k : Nat) : List Nat := (List.range 12).map fun i => oneN (hitU l (inP i) k)
def sumN : List Nat → Nat
  | [] => 0
  | x :: r => x + sumN r
def blkM (l : List Bool) : Nat := cntU l 162 + sumN (secL l 162) + oneN (hitU l inS 162) + oneN (hitU l inD 162)
def Nd.blk (x : Nd) : Nat := if x.kind = 2 then (x.most + 3) / 4 else if x.kind = 3 then 1 else blkM x.wr
theorem cntU_le (l : List Bool) : ∀ k, cntU l k ≤ k
  | 0 => Nat.le_refl _
  | k + 1 => by
    have := cntU_le l k
    unfold cntU oneN
    split <;> omega
theorem oneN_le (b : Bool) : oneN b ≤ 1 := by cases b <;> decide
theorem sumN_le : ∀ l : List Nat, (∀ x ∈ l, x ≤ 1) → sumN l ≤ l.length
  | [], _ => Nat.le_refl _
  | x :: r, h => by
    have h1 := h x List.mem_cons_self
    have h2 := sumN_le r fun y hy => h y (List.mem_cons_of_mem _ hy)
    show x + sumN r ≤ r.length + 1
    omega
theorem sumN_take : ∀ (l : List Nat) (k : Nat), k < l.length → sumN (l.take (k + 1)) = sumN (l.take k) + l.getD k 0
  | [], k, h => by simp at h
  | x :: r, 0, _ => by simp [sumN]
  | x :: r, k + 1, h => by
    have := sumN_take r k (by simpa using h)
    rw [List.take_succ_cons, List.take_succ_cons]
    show x + sumN (r.take (k + 1)) = x + sumN (r.take k) + (x :: r).getD (k + 1) 0
    rw [this]
    simp [List.getD]
    omega
theorem secL_length (l : List Bool) (k : Nat) : (secL l k).length = 12 := by simp [secL]
theorem secL_get (l : List Bool) {k i : Nat} (h : i < 12) : (secL l k)[i]? = some (oneN (hitU l (inP i) k)) := by simp [secL, h]
theorem secL_le (l : List Bool) (k : Nat) : ∀ x ∈ secL l k, x ≤ 1 := fun x hx => by
  obtain ⟨i, _, rfl⟩ := List.mem_map.1 hx
  exact oneN_le _
theorem secL_not {l : List Bool} {k : Nat} (h : l.getD k false = false) : secL l (k + 1) = secL l k := by
  unfold secL
  refine List.map_congr_left fun i _ => ?_
  show oneN (hitU l (inP i) k || (l.getD k false && inP i k)) = _
  rw [h, Bool.false_and, Bool.or_false]
theorem secL_low {l : List Bool} {k : Nat} (h : k < 18) : secL l (k + 1) = secL l k := by
  unfold secL
  refine List.map_congr_left fun i _ => ?_
  show oneN (hitU l (inP i) k || (l.getD k false && inP i k)) = _
  have : inP i k = false := by unfold inP; rw [decide_eq_false (by omega)]; rfl
  rw [this, Bool.and_false, Bool.or_false]
theorem secL_set {l : List Bool} {k : Nat} (h : l.getD k false = true) (hk : 18 ≤ k) (hk2 : k < 162) : secL l (k + 1) = (secL l k).set ((k - 18) / 12) 1 := by
  apply List.ext_getElem?
  intro i
  by_cases hi : i < 12
  · rw [secL_get l hi]
    show some (oneN (hitU l (inP i) k || (l.getD k false && inP i k))) = _
    rw [h, Bool.true_and]
    by_cases e : (k - 18) / 12 = i
    · have : inP i k = true := by unfold inP; rw [decide_eq_true (by omega), decide_eq_true (by omega)]; rfl
      rw [this, Bool.or_true, e, List.getElem?_set_self (by rw [secL_length]; exact hi)]
      rfl
    · have : inP i k = false := by
        unfold inP
        by_cases h1 : 18 + 12 * i ≤ k
        · rw [decide_eq_false (show ¬ k < 18 + 12 * i + 12 by omega), Bool.and_false]
        · rw [decide_eq_false h1]; rfl
      rw [this, Bool.or_false, List.getElem?_set_ne e, secL_get l hi]
  · rw [List.getElem?_eq_none (by rw [secL_length]; omega), List.getElem?_eq_none (by rw [List.length_set, secL_length]; omega)]
end Go.Proofs.YtgcodlicbdaddaaGreatDoor
end
