/-
  The set in which a number stands.
-/
import Derived.Test.YtdkjmpicdkfgoaaQd
import Derived.Test.YtdkjmpicdkfgoaaG1

namespace Go.Proofs.Ytdkjmpicdkfgoaa
open Go.RowKit BigFrame Fl
variable {w w' : World} {F : List Nat} {s g i b : Nat} {X : Nat → List Nat} {o e : Nat}

theorem ldE_of (v : Value) : Instr.loadAt 23 v = ldA 23 v := rfl
theorem Sp.ldE (h : Sp w F s g i b X) : (ldA 23 (.pointer (some ⟨s, 0, none⟩))).run Try.prog w = .ok (.agg #[.int .i64 (g : Int), .int .i64 (i : Int), .int .i64 (b : Int)]) w := by
  have c0 := h.cg
  have c1 := h.ci
  have c2 := h.cb
  refine run_ldW (l := [.int .i64 (g : Int), .int .i64 (i : Int), .int .i64 (b : Int)]) 3 _ ?_ rfl Try.underlying23 rfl (by kernel_rfl)
  intro j v hv
  match j, hv with
  | 0, hv => simp at hv; subst hv; exact c0
  | 1, hv => simp at hv; subst hv; exact c1
  | 2, hv => simp at hv; subst hv; exact c2
def posN (i b o k j : Nat) : Nat := if o = 3 then 1 + k * i + j else 3 + i / 4 + k * spanN i b + j
/-- inode or block of which something is asked: number j of group k of a pool -/
def Asked (i b o k j : Nat) (n m : Int) : Prop := (o = 3 ∧ n = ((posN i b o k j : Nat) : Int) ∧ m = 0) ∨ (o = 21 ∧ n = 0 ∧ m = ((posN i b o k j : Nat) : Int))
/-- none is -/
def AskedNo (g i b : Nat) (n m : Int) : Prop := (m = 0 → NotIn g 1 i i n) ∧ (n = 0 → NotIn g (3 + i / 4) (spanN i b) b m)
theorem notIn_zero {g f s l : Nat} (hf : 0 < f) : NotIn g f s l 0 := fun k _ => .inl (by omega)
theorem asked_or (g i b : Nat) (n m : Int) : (∃ o e k j, Pol o e i b ∧ k < g ∧ j < e ∧ Asked i b o k j n m) ∨ AskedNo g i b n m := by
  by_cases hm : m = 0
  · subst hm
    rcases in_or_not g 1 i i n with ⟨k, j, hk, hj, hx⟩ | h
    · exact .inl ⟨3, i, k, j, .inl ⟨rfl, rfl⟩, hk, hj, .inl ⟨rfl, by unfold posN; rw [if_pos rfl]; exact hx, rfl⟩⟩
    · exact .inr ⟨fun _ => h, fun _ => notIn_zero (by omega)⟩
  · by_cases hn : n = 0
    · subst hn
      rcases in_or_not g (3 + i / 4) (spanN i b) b m with ⟨k, j, hk, hj, hx⟩ | h
      · exact .inl ⟨21, b, k, j, .inr ⟨rfl, rfl⟩, hk, hj, .inr ⟨rfl, rfl, by unfold posN; rw [if_neg (by decide)]; exact hx⟩⟩
      · exact .inr ⟨fun h2 => absurd h2 hm, fun _ => h⟩
    · exact .inr ⟨fun h2 => absurd h2 hm, fun h2 => absurd h2 hn⟩

theorem find_nil (n m : Int) (w : World) : Calls Try.prog 51 #[.pointer none, .int .i64 n, .int .i64 m] w (fun e w' => e = .returned (.tuple #[.pointer none, .int .i64 0, .int .i64 1]) ∧ w = w') := by
  go_enter Try.func51, Try.ntmps51
  go_wp2_with fail
  go_ret3
  exact ⟨rfl, rfl⟩
attribute [local go_sem ↓] ldE_of
set_option maxHeartbeats 1000000 in
theorem find_in (k j : Nat) (n m : Int) (h : Sp w F s g i b X) (ok : Ok g i b) (hp : Pol o e i b) (hk : k < g) (hj : j < e) (ha : Asked i b o k j n m) :
    Calls Try.prog 51 #[.pointer (some ⟨s, 0, none⟩), .int .i64 n, .int .i64 m] w (Tells (.tuple #[.pointer (some ⟨s, o + 2 + 2 * k, none⟩), .int .i64 (j : Int), .int .i64 0]) w) := by
  have hl := h.ldE
  have k0 : (0 : Int) ≤ (k : Int) := by omega
  have k8 : (k : Int) < 8 := by have := ok.g2; omega
  have kn : decide ((k : Int) < 0) = false := decide_eq_false (by omega)
  have ok' := Lib.hid ok
  have h' := Lib.hid h
  rcases ha with ⟨rfl, hn, rfl⟩ | ⟨rfl, rfl, hm⟩
  · obtain rfl : e = i := by rcases hp with ⟨_, h⟩ | ⟨h, _⟩ <;> omega
    have hn' := Lib.hid (show n = ((1 + k * e + j : Nat) : Int) by rw [hn]; unfold posN; rw [if_pos rfl])
    have ea : Hid (5 + k * 2 = 3 + 2 + 2 * k) := Lib.hid (by omega)
    clear h ok hn hp
    go_enter Try.func51, Try.ntmps51
    go_wp2_with (go_at_call 69; refine (ofInode_in g e b k j n _ ok'.out hk hj hn'.out).mono ?_; rintro e1 w1 ⟨rfl, hb1⟩; unfold two; have B1 := Lib.hid hb1; clear hb1)
    rw [ea.out]
    go_ret3
    exact ⟨rfl, B1.out⟩
  · obtain rfl : e = b := by rcases hp with ⟨h, _⟩ | ⟨_, h⟩ <;> omega
    have hm' := Lib.hid (show m = ((3 + i / 4 + k * spanN i e + j : Nat) : Int) by rw [hm]; unfold posN; rw [if_neg (by decide)])
    have dm : (m == 0) = false := by rw [beq_eq_false_iff_ne, hm'.out]; omega
    have ea : Hid (23 + k * 2 = 21 + 2 + 2 * k) := Lib.hid (by omega)
    clear h ok hm hp
    go_enter Try.func51, Try.ntmps51
    go_wp2_with (go_at_call 24; refine (ofBlock_in g i e k j m _ ok'.out hk hj hm'.out).mono ?_; rintro e1 w1 ⟨rfl, hb1⟩; unfold two; have B1 := Lib.hid hb1; clear hb1)
    rw [ea.out]
    go_ret3
    exact ⟨rfl, B1.out⟩
set_option maxHeartbeats 1000000 in
theorem find_bad (n m : Int) (h : Sp w F s g i b X) (ok : Ok g i b) (ha : AskedNo g i b n m) :
    Calls Try.prog 51 #[.pointer (some ⟨s, 0, none⟩), .int .i64 n, .int .i64 m] w (Tells (.tuple #[.pointer none, .int .i64 0, .int .i64 2]) w) := by
  have hl := h.ldE
  have ok' := Lib.hid ok
  obtain ⟨h1, h2⟩ := ha
  clear h ok
  by_cases hm : m = 0
  · subst hm
    have h1' := Lib.hid (h1 rfl)
    clear h1 h2
    go_enter Try.func51, Try.ntmps51
    go_wp2_with (go_at_call 69; refine (ofInode_out g i b n _ ok'.out h1'.out).mono ?_; rintro e1 w1 ⟨rfl, hb1⟩; unfold two; have B1 := Lib.hid hb1; clear hb1)
    go_ret3
    exact ⟨rfl, B1.out⟩
  · have dm : (m == 0) = false := by rw [beq_eq_false_iff_ne]; exact hm
    by_cases hn : n = 0
    · subst hn
      have h2' := Lib.hid (h2 rfl)
      clear h1 h2
      go_enter Try.func51, Try.ntmps51
      go_wp2_with (go_at_call 24; refine (ofBlock_out g i b m _ ok'.out h2'.out).mono ?_; rintro e1 w1 ⟨rfl, hb1⟩; unfold two; have B1 := Lib.hid hb1; clear hb1)
      go_ret3
      exact ⟨rfl, B1.out⟩
    · have dn : (n == 0) = false := by rw [beq_eq_false_iff_ne]; exact hn
      clear h1 h2 hl
      go_enter Try.func51, Try.ntmps51
      go_wp2_with fail
      go_ret3
      exact ⟨rfl, Below.refl _ _⟩
end Go.Proofs.Ytdkjmpicdkfgoaa
