/-
  Where things stand: rows of long numbers each; the group of an inode, of a block.
-/
import Derived.Test.YtdkjmpicdkfgoaaGs
namespace Go.Proofs.Ytdkjmpicdkfgoaa
open Go.RowKit BigFrame

/-- x stands in row a, at place c of it: of g rows of l numbers each, the first from f on, each s behind the one ahead; -1, -1 -/
def IsIn (g f s l : Nat) (x a c : Int) : Prop :=
  (∃ k : Nat, k < g ∧ ((f + k * s : Nat) : Int) ≤ x ∧ x < ((f + k * s + l : Nat) : Int) ∧ a = (k : Int) ∧ c = x - ((f + k * s : Nat) : Int)) ∨
  ((∀ k : Nat, k < g → x < ((f + k * s : Nat) : Int) ∨ ((f + k * s + l : Nat) : Int) ≤ x) ∧ a = -1 ∧ c = -1)
theorem row_apart {f s l j k : Nat} (hl : l ≤ s) (h : j < k) : f + j * s + l ≤ f + k * s := by
  have : (j + 1) * s ≤ k * s := Nat.mul_le_mul_right s h
  rw [Nat.add_mul] at this
  omega
theorem IsIn.unique {g f s l : Nat} {x a c a2 c2 : Int} (hl : l ≤ s) (h : IsIn g f s l x a c) (h2 : IsIn g f s l x a2 c2) : a = a2 ∧ c = c2 := by
  rcases h with ⟨k, hk, h1, h3, rfl, rfl⟩ | ⟨hn, rfl, rfl⟩
  · rcases h2 with ⟨j, hj, g1, g3, rfl, rfl⟩ | ⟨gn, rfl, rfl⟩
    · by_cases e : j < k
      · have := row_apart (f := f) hl e; omega
      · by_cases e2 : k < j
        · have := row_apart (f := f) hl e2; omega
        · obtain rfl : j = k := by omega
          exact ⟨rfl, rfl⟩
    · have := gn k hk; omega
  · rcases h2 with ⟨j, hj, g1, g3, rfl, rfl⟩ | ⟨gn, rfl, rfl⟩
    · have := hn j hj; omega
    · exact ⟨rfl, rfl⟩
def FindRel (x : Int) (g f s l : Nat) (w : World) (F I : Value) (wr : World) : Prop :=
  ∃ k : Nat, k ≤ g ∧ F = .int .i64 ((f + k * s : Nat) : Int) ∧ I = .int .i64 (k : Int) ∧ wr = w ∧ ∀ j : Nat, j < k → x < ((f + j * s : Nat) : Int) ∨ ((f + j * s + l : Nat) : Int) ≤ x
/-- two numbers -/
def two (a c : Int) : Value := .tuple #[.int .i64 a, .int .i64 c]

set_option maxHeartbeats 1000000 in
theorem find_c (x : Int) (g f s l : Nat) (G F S L : Int) (w : World) (hG : G = (g : Int)) (hF : F = (f : Int)) (hS : S = (s : Int)) (hL : L = (l : Int)) (hg : g ≤ 8) (hf : f ≤ 1000) (hs : s ≤ 1000) (hl : l ≤ 1000) :
    Calls Try.prog 50 #[.int .i64 x, .int .i64 G, .int .i64 F, .int .i64 S, .int .i64 L] w fun e w' => (∃ a c, IsIn g f s l x a c ∧ e = .returned (two a c)) ∧ w = w' := by
  subst hG hF hS hL
  unfold two
  go_enter Try.func50, Try.ntmps50
  go_wp2_with fail
  go_loopw [2, 14] (fun F I wr => FindRel x g f s l w F I wr) (fun _ I _ => g - (intOf I).toNat)
  case atStart => exact ⟨0, by omega, by simp, rfl, rfl, fun j hj => by omega⟩
  case round =>
    obtain ⟨k, hk, rfl, rfl, rfl, hb⟩ := hrel
    have hb' := Lib.hid hb
    clear hb
    by_cases hlt : k < g
    · have hbd : k * s ≤ 8000 := Nat.mul_le_mul (show k ≤ 8 by omega) hs
      obtain ⟨p, hp⟩ : ∃ p, p = f + k * s := ⟨_, rfl⟩
      have hp2 : f + (k + 1) * s = p + s := by rw [Nat.add_mul]; omega
      have hpb : p ≤ 9000 := by omega
      rw [← hp]
      have hp' := Lib.hid hp
      have hp2' := Lib.hid hp2
      clear hp hp2
      by_cases h1 : (p : Int) ≤ x
      · have d1 : decide ((p : Int) ≤ x) = true := decide_eq_true h1
        by_cases h2 : x < (p : Int) + l
        · have d2 : decide (x < (p : Int) + l) = true := decide_eq_true h2
          go_wp2_with fail
          go_ret2
          exact ⟨⟨(k : Int), x - p, .inl ⟨k, hlt, by rw [← hp'.out]; omega, by rw [← hp'.out]; omega, rfl, by rw [← hp'.out]⟩, rfl⟩, rfl⟩
        · have d2 : decide (x < (p : Int) + l) = false := decide_eq_false h2
          go_wp2_with fail
          refine ⟨⟨k + 1, by omega, by rw [hp2'.out]; go_num, by go_num, rfl, fun j hj => ?_⟩, by simp [intOf]; omega⟩
          by_cases e : j = k
          · subst e
            rw [← hp'.out]
            omega
          · exact hb'.out j (by omega)
      · have d1 : decide ((p : Int) ≤ x) = false := decide_eq_false h1
        go_wp2_with fail
        refine ⟨⟨k + 1, by omega, by rw [hp2'.out]; go_num, by go_num, rfl, fun j hj => ?_⟩, by simp [intOf]; omega⟩
        by_cases e : j = k
        · subst e
          rw [← hp'.out]
          omega
        · exact hb'.out j (by omega)
    · go_wp2_with fail
      go_ret2
      exact ⟨⟨-1, -1, .inr ⟨fun j hj => hb'.out j (by omega), rfl, rfl⟩, rfl⟩, rfl⟩
/-- a call that tells two numbers, and turns nothing that was there -/
def Pairs (R : Int → Int → Prop) (w : World) (e : Ending) (w' : World) : Prop := (∃ a c, R a c ∧ e = .returned (two a c)) ∧ Below w.heap.size w w'

theorem ofInode_no (G I B n : Int) (w : World) (h : mayZ G I B = false) :
    Calls Try.prog 69 #[geo G I B, .int .i64 n] w (Tells (two (-1) (-1)) w) := by
  have h' := Lib.hid h
  clear h
  unfold geo two
  go_enter Try.func69, Try.ntmps69
  go_wp2_with (go_at_call 30; refine (may_is _ _ _ false _ h'.out).mono ?_; rintro e w1 ⟨rfl, hb⟩; have hb' := Lib.hid hb; clear hb)
  go_ret2
  exact ⟨rfl, below_box hb'.out⟩
set_option maxHeartbeats 1000000 in
theorem ofInode_ok (g i b : Nat) (n : Int) (w : World) (h : Ok g i b) :
    Calls Try.prog 69 #[geo g i b, .int .i64 n] w (Pairs (IsIn g 1 i i n) w) := by
  have hi : i ≤ 32 := h.i2
  have hg : g ≤ 8 := h.g2
  have h' := Lib.hid h.may
  clear h
  unfold geo
  go_enter Try.func69, Try.ntmps69
  go_wp2_with (first
    | (go_at_call 30; refine (may_is _ _ _ true _ h'.out).mono ?_; rintro e w1 ⟨rfl, hb⟩; obtain ⟨c0, c1, c2, hlt⟩ := box_on hb (boxAt_alloc w g i b 23); have hb' := Lib.hid (below_box hb); clear hb)
    | (go_at_call 50; refine (find_c n g 1 i i _ _ _ _ _ rfl rfl rfl rfl hg (by omega) (by omega) (by omega)).mono ?_; rintro e w2 ⟨⟨a, c, hac, rfl⟩, rfl⟩; unfold two; have hac' := Lib.hid hac; clear hac))
  go_ret2
  exact ⟨⟨a, c, hac'.out, rfl⟩, hb'.out⟩
/-- no row has it -/
def NotIn (g f s l : Nat) (x : Int) : Prop := ∀ k : Nat, k < g → x < ((f + k * s : Nat) : Int) ∨ ((f + k * s + l : Nat) : Int) ≤ x
theorem in_or_not (g f s l : Nat) (x : Int) : (∃ k j : Nat, k < g ∧ j < l ∧ x = ((f + k * s + j : Nat) : Int)) ∨ NotIn g f s l x := by
  by_cases h : ∃ k j : Nat, k < g ∧ j < l ∧ x = ((f + k * s + j : Nat) : Int)
  · exact .inl h
  · refine .inr fun k hk => ?_
    by_cases h1 : x < ((f + k * s : Nat) : Int)
    · exact .inl h1
    · by_cases h2 : ((f + k * s + l : Nat) : Int) ≤ x
      · exact .inr h2
      · exact absurd ⟨k, (x - ((f + k * s : Nat) : Int)).toNat, hk, by omega, by omega⟩ h
theorem IsIn.row {g f s l k j : Nat} {x a c : Int} (hl : l ≤ s) (h : IsIn g f s l x a c) (hk : k < g) (hj : j < l) (hx : x = ((f + k * s + j : Nat) : Int)) : a = (k : Int) ∧ c = (j : Int) :=
  h.unique hl (.inl ⟨k, hk, by omega, by omega, rfl, by omega⟩)
theorem IsIn.none {g f s l : Nat} {x a c : Int} (hl : l ≤ s) (h : IsIn g f s l x a c) (hn : NotIn g f s l x) : a = -1 ∧ c = -1 := h.unique hl (.inr ⟨hn, rfl, rfl⟩)

theorem ret_two {a c a2 c2 : Int} (ha : a = a2) (hc : c = c2) : Ending.returned (.tuple #[.int .i64 a, .int .i64 c]) = .returned (two a2 c2) := by rw [ha, hc]; rfl

theorem ofInode_in (g i b k j : Nat) (n : Int) (w : World) (h : Ok g i b) (hk : k < g) (hj : j < i) (hn : n = ((1 + k * i + j : Nat) : Int)) :
    Calls Try.prog 69 #[geo g i b, .int .i64 n] w (Tells (two k j) w) := by
  refine (ofInode_ok g i b n w h).mono fun e w' ⟨⟨a, c, hac, he⟩, hb⟩ => ?_
  obtain ⟨rfl, rfl⟩ := hac.row (Nat.le_refl _) hk hj hn
  exact ⟨he, hb⟩
theorem ofInode_out (g i b : Nat) (n : Int) (w : World) (h : Ok g i b) (hn : NotIn g 1 i i n) :
    Calls Try.prog 69 #[geo g i b, .int .i64 n] w (Tells (two (-1) (-1)) w) := by
  refine (ofInode_ok g i b n w h).mono fun e w' ⟨⟨a, c, hac, he⟩, hb⟩ => ?_
  obtain ⟨rfl, rfl⟩ := hac.none (Nat.le_refl _) hn
  exact ⟨he, hb⟩
theorem ofBlock_no (G I B n : Int) (w : World) (h : mayZ G I B = false) :
    Calls Try.prog 24 #[geo G I B, .int .i64 n] w (Tells (two (-1) (-1)) w) := by
  have h' := Lib.hid h
  clear h
  unfold geo two
  go_enter Try.func24, Try.ntmps24
  go_wp2_with (go_at_call 30; refine (may_is _ _ _ false _ h'.out).mono ?_; rintro e w1 ⟨rfl, hb⟩; have hb' := Lib.hid hb; clear hb)
  go_ret2
  exact ⟨rfl, below_box hb'.out⟩
set_option maxHeartbeats 1000000 in
theorem ofBlock_ok (g i b : Nat) (n : Int) (w : World) (h : Ok g i b) :
    Calls Try.prog 24 #[geo g i b, .int .i64 n] w (Pairs (IsIn g (3 + i / 4) (spanN i b) b n) w) := by
  have hi : i ≤ 32 := h.i2
  have hbb : b ≤ 96 := h.b2
  have hg : g ≤ 8 := h.g2
  have hs := spanN_le h
  have h0 : 0 < g := h.g1
  have hf : firstN i b 0 = 3 + i / 4 := by simp [firstN]
  have h' := Lib.hid h
  have hf' := Lib.hid hf
  clear h hf
  unfold geo
  go_enter Try.func24, Try.ntmps24
  go_wp2_with (first
    | (go_at_call 30; refine (may_is _ _ _ true _ h'.out.may).mono ?_; rintro e w1 ⟨rfl, hb⟩; obtain ⟨c0, c1, c2, hlt⟩ := box_on hb (boxAt_alloc w g i b 23); have hb' := Lib.hid (below_box hb); clear hb))
  go_region_held3 (fun w' => w'.cell? ⟨w.heap.size, 0, none⟩ = some (.int .i64 (g : Int)) ∧ w'.cell? ⟨w.heap.size, 1, none⟩ = some (.int .i64 (i : Int)) ∧ w'.cell? ⟨w.heap.size, 2, none⟩ = some (.int .i64 (b : Int))) (first | exact ⟨c0, c1, c2⟩ | exact ⟨m0, m1, m2⟩ | exact ⟨l0, l1, l2⟩)
    (first
      | (go_at_call 29; refine (first_in g i b 0 _ h'.out h0).mono ?_; rw [hf'.out]; rintro e w2 ⟨rfl, hd⟩; obtain ⟨l0, l1, l2, hlt2⟩ := box_on hd ⟨c0, c1, c2, hlt⟩; have hd' := Lib.hid (below_two hb'.out.drew hd); clear hd)
      | (go_at_call 48; refine (span_any _ i b _ (by omega) (by omega)).mono ?_; rintro e w3 ⟨rfl, hd⟩; obtain ⟨m0, m1, m2, hlt3⟩ := box_on hd ⟨l0, l1, l2, hlt2⟩; have hd3 := Lib.hid (below_two hd'.out hd); clear hd)
      | (go_at_call 50; refine (find_c n g (3 + i / 4) (spanN i b) b _ _ _ _ _ rfl (by omega) rfl rfl hg (by omega) (by omega) (by omega)).mono ?_; rintro e w4 ⟨⟨a, c, hac, rfl⟩, rfl⟩; unfold two; have hac' := Lib.hid hac; clear hac))
  go_wp2_with fail
  go_ret2
  exact ⟨⟨a, c, hac'.out, rfl⟩, hd3.out⟩
theorem ofBlock_in (g i b k j : Nat) (n : Int) (w : World) (h : Ok g i b) (hk : k < g) (hj : j < b) (hn : n = ((3 + i / 4 + k * spanN i b + j : Nat) : Int)) :
    Calls Try.prog 24 #[geo g i b, .int .i64 n] w (Tells (two k j) w) := by
  refine (ofBlock_ok g i b n w h).mono fun e w' ⟨⟨a, c, hac, he⟩, hb⟩ => ?_
  obtain ⟨rfl, rfl⟩ := hac.row (by unfold spanN; omega) hk hj hn
  exact ⟨he, hb⟩
theorem ofBlock_out (g i b : Nat) (n : Int) (w : World) (h : Ok g i b) (hn : NotIn g (3 + i / 4) (spanN i b) b n) :
    Calls Try.prog 24 #[geo g i b, .int .i64 n] w (Tells (two (-1) (-1)) w) := by
  refine (ofBlock_ok g i b n w h).mono fun e w' ⟨⟨a, c, hac, he⟩, hb⟩ => ?_
  obtain ⟨rfl, rfl⟩ := hac.none (by unfold spanN; omega) hn
  exact ⟨he, hb⟩
end Go.Proofs.Ytdkjmpicdkfgoaa
