/-
  The document's own disk: Waiting.
-/
import Derived.Test.YtmaodnidodoadaaRr
namespace Go.Proofs.Ytmaodnidodoadaa
open Go.RowKit BigFrame

def GivesIo (n : Nat) (D : Nat → Int) (w : World) (e : Ending) (w' : World) : Prop := ∃ v, e = .returned v ∧ OwnI w' w.heap.size v n D ∧ Below w.heap.size w w'
def RwRel (w : World) (d : Dk) (nw : Nat) (g : Nat) (v i : Value) (wr : World) : Prop :=
  ∃ k : Nat, k + g = nw ∧ i = .int .i64 k ∧ OwnI wr w.heap.size v k (waitD d) ∧ Below w.heap.size w wr
set_option maxRecDepth 100000 in
set_option maxHeartbeats 1000000 in
theorem rwaiting_any (w : World) (B : Nat) (G : Nat) (A : RLies) (R : List Nat) (d : Dk) (h : IsRf w B G A R d) :
    Calls Try.prog 13 #[.pointer (some ⟨G, 0, none⟩)] w (GivesIo d.waits.length (waitD d) w) := by
  obtain ⟨nw, hnw⟩ : ∃ nw, d.waits.length = nw := ⟨_, rfl⟩
  obtain ⟨aw, cw, hvw, _⟩ := h.waits
  rw [hnw] at hvw ⊢
  have hm1 := h.fine.many
  rw [hnw] at hm1
  have h' := Lib.hid h
  have hnw' := Lib.hid hnw
  have hvw' := Lib.hid hvw
  clear h hnw hvw
  go_enter Try.func13, Try.ntmps13
  go_wp2_with fail
  go_loopg [3, 4] nw (fun g v i wr => RwRel w d nw g v i wr)
  case atStart => exact ⟨0, by omega, rfl, OwnI.nil _ _ _, Below.refl _ _⟩
  case round =>
    obtain ⟨k, hg, rfl, ho, hb⟩ := hrel
    have D2 := h'.out.read hb
    have c1 := D2.cell 1
    simp only [rcells, hvw'.out, List.getElem?_toArray, List.getElem?_cons_zero, List.getElem?_cons_succ] at c1
    have D2' := Lib.hid D2
    have ho' := Lib.hid ho
    have hb' := Lib.hid hb
    clear D2 ho hb
    by_cases hlt : k < nw
    · obtain ⟨g, rfl⟩ : ∃ g, gk = g + 1 := ⟨gk - 1, by omega⟩
      obtain ⟨b, gv, cv, rfl, hat, hU, u1, u2, u3⟩ := IsRf.waitAt D2'.out hvw'.out hnw'.out hlt
      obtain ⟨at', hat'⟩ : ∃ at', (wtAt d.waits k).1 = at' := ⟨_, rfl⟩
      rw [hat'] at u1 hat
      have hat2 := Lib.hid hat'
      clear hU hat' u2 u3 hat
      have o2 := Lib.hid (ho'.out.alloc (.cells #[.int .i64 (at' : Int)] 3))
      have n2 := Lib.hid (show IntsAt (wr.alloc (.cells #[.int .i64 (at' : Int)] 3)) (some ⟨wr.heap.size, 0, none⟩) 1 (fun _ => (at' : Int)) from .inr ⟨_, 0, rfl, fun j hj => by
        obtain rfl : j = 0 := by omega
        exact World.news_of_block (cs := #[.int .i64 (at' : Int)]) (heap_alloc_new wr _) 0 _ (by simp)⟩)
      have b2 := Lib.hid (hb'.out.trans ((Below.refl wr.heap.size wr).alloc (Nat.le_refl _) (.cells #[.int .i64 (at' : Int)] 3) |>.mono hb'.out.size))
      go_wp2_with (at_builtin; refine wpList_append_ints rfl (.tmp 14) (.tmp 23) rfl w.heap.size k _ (waitD d) rfl o2.out (some ⟨wr.heap.size, 0, none⟩) 1 1 (fun _ => (at' : Int)) rfl n2.out (by intro h; cases h) (by omega) b2.out.size ?_; intro v5 w5 ho5 hg5 hb5)
      go_roundg g
      case measure => omega
      case rel => exact ⟨k + 1, by omega, by go_num, ho5.out.congr (fun p hp => by
          unfold joinI
          split
          · rfl
          · obtain rfl : p = k := by omega
            rw [waitD, hat2.out]), b2.out.trans hb5⟩
    · obtain rfl : k = nw := by omega
      go_wp2_with fail
      go_ret
      exact ⟨_, rfl, ho'.out, hb'.out⟩
end Go.Proofs.Ytmaodnidodoadaa
