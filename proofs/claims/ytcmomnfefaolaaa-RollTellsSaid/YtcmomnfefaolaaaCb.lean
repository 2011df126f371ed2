/-
  Bytes are copied into a variable of the call's own, of whatever type its block is of.
-/
import Derived.Test.YtcmomnfefaolaaaQt
namespace Go.Proofs.Ytcmomnfefaolaaa
open Go.RowKit

theorem wpList_copy_bytesT (t : TypeId) {w : World} {ops : Array Oper} {rest : List Oper} {o : Oper} {a : Act} {Q : Exit → Act → World → Prop} (hgd : o.guard = none) (d s : Operand)
    (ho : o.op = .call { callee := .builtin .copy, args := #[d, s], argTypes := #[22, 22] })
    (g off dLen dCap : Nat) (sp : Option Addr) (n sCap : Nat) (L m : List Nat) (hd : a.eval d = .slice (some ⟨g, off, none⟩) dLen dCap) (hs : a.eval s = .slice sp n sCap) (hm : m.length = n)
    (hrow : RowT w t g L) (hsrc : BAt w sp m) (hfit : off + dLen ≤ L.length) (B : Nat) (w0 : World) (hb : Below B w0 w) (hBg : B ≤ g)
    (h : ∀ w', Hid (RowT w' t g (splice L off (m.take dLen))) → Below B w0 w' → wpList Try.prog ops Q rest (a.put o.dst (goInt (m.take dLen).length)) w') : wpList Try.prog ops Q (o :: rest) a w := by
  subst hm
  have hlen : (bv (m.take dLen)).length = (m.take dLen).length := bv_length _
  refine wpList_copy_splice hgd d s _ _ ho 5 Try.underlying22 ?_ (some ⟨g, off, none⟩) sp dLen dCap m.length sCap hd hs g off (bv L) t hrow (bv (m.take dLen)) ?_ ?_ ?_ (bv_one _) B w0 hb hBg ?_
  · obtain ⟨i, hi, hz0, hz1, hz2⟩ := info_parts Try.infoB
    rw [hi]; simp [hz1]
  · rw [hlen, List.length_take]; show min dLen m.length = min m.length dLen; omega
  · intro hp
    rw [hlen, List.length_take] at hp
    obtain ⟨b, o', rfl⟩ := hsrc.addr (by omega)
    refine ⟨rfl, _, rfl, fun j v hv => ?_⟩
    obtain ⟨hj, rfl⟩ := bv_at hv
    rw [List.length_take] at hj
    rw [addr_add, hsrc.cell (by omega), bz_take (by omega)]
  · rw [hlen, bv_length, List.length_take]; omega
  · intro w' hw hb'
    rw [hlen, bv_splice] at *
    exact h w' hw hb'
end Go.Proofs.Ytcmomnfefaolaaa
