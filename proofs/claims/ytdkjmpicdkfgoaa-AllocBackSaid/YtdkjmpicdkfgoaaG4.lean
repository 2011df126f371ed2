/-
  Where things stand: the calls, at numbers that are written in any way.
-/
import Derived.Test.YtdkjmpicdkfgoaaG1
namespace Go.Proofs.Ytdkjmpicdkfgoaa
open Go.RowKit BigFrame

/-- the three numbers of a geometry that may be -/
structure Geom (G I B : Int) (g i b : Nat) : Prop where
  eg : G = (g : Int)
  ei : I = (i : Int)
  eb : B = (b : Int)
  ok : Ok g i b
variable {G I B : Int} {g i b : Nat}
theorem geoMay_c (w : World) (h : Geom G I B g i b) : Calls Try.prog 30 #[geo G I B] w (Tells (.bool true) w) := by
  obtain ⟨rfl, rfl, rfl, h⟩ := h
  exact may_is _ _ _ _ w h.may
theorem geoSectors_c (R : Int) (w : World) (h : Geom G I B g i b) (hR : R = ((2 + g * spanN i b : Nat) : Int)) : Calls Try.prog 21 #[geo G I B] w (Tells (.int .i64 R) w) := by
  subst hR
  obtain ⟨rfl, rfl, rfl, h⟩ := h
  exact sectors_ok g i b w h
theorem geoInodes_c (R : Int) (w : World) (h : Geom G I B g i b) (hR : R = ((g * i : Nat) : Int)) : Calls Try.prog 20 #[geo G I B] w (Tells (.int .i64 R) w) := by
  subst hR
  obtain ⟨rfl, rfl, rfl, h⟩ := h
  exact inodes_ok g i b w h
theorem geoBlocks_c (R : Int) (w : World) (h : Geom G I B g i b) (hR : R = ((g * b : Nat) : Int)) : Calls Try.prog 22 #[geo G I B] w (Tells (.int .i64 R) w) := by
  subst hR
  obtain ⟨rfl, rfl, rfl, h⟩ := h
  exact blocks_ok g i b w h
theorem geoGroup_c (k : Nat) (K R : Int) (w : World) (h : Geom G I B g i b) (hK : K = (k : Int)) (hk : k < g) (hR : R = ((2 + k * spanN i b : Nat) : Int)) :
    Calls Try.prog 55 #[geo G I B, .int .i64 K] w (Tells (.int .i64 R) w) := by
  subst hR hK
  obtain ⟨rfl, rfl, rfl, h⟩ := h
  exact group_in g i b k w h hk
theorem geoFirst_c (k : Nat) (K R : Int) (w : World) (h : Geom G I B g i b) (hK : K = (k : Int)) (hk : k < g) (hR : R = ((firstN i b k : Nat) : Int)) :
    Calls Try.prog 29 #[geo G I B, .int .i64 K] w (Tells (.int .i64 R) w) := by
  subst hR hK
  obtain ⟨rfl, rfl, rfl, h⟩ := h
  exact first_in g i b k w h hk
theorem geoOfInode_c (k j : Nat) (n K J : Int) (w : World) (h : Geom G I B g i b) (hk : k < g) (hj : j < i) (hn : n = ((1 + k * i + j : Nat) : Int)) (hK : K = (k : Int)) (hJ : J = (j : Int)) :
    Calls Try.prog 69 #[geo G I B, .int .i64 n] w (Tells (two K J) w) := by
  subst hK hJ
  obtain ⟨rfl, rfl, rfl, h⟩ := h
  exact ofInode_in g i b k j n w h hk hj hn
theorem geoOfBlock_c (k j : Nat) (n K J : Int) (w : World) (h : Geom G I B g i b) (hk : k < g) (hj : j < b) (hn : n = ((3 + i / 4 + k * spanN i b + j : Nat) : Int)) (hK : K = (k : Int)) (hJ : J = (j : Int)) :
    Calls Try.prog 24 #[geo G I B, .int .i64 n] w (Tells (two K J) w) := by
  subst hK hJ
  obtain ⟨rfl, rfl, rfl, h⟩ := h
  exact ofBlock_in g i b k j n w h hk hj hn
theorem geoOfBlock_none (n : Int) (w : World) (h : Geom G I B g i b) (hn : NotIn g (3 + i / 4) (spanN i b) b n) :
    Calls Try.prog 24 #[geo G I B, .int .i64 n] w (Tells (two (-1) (-1)) w) := by
  obtain ⟨rfl, rfl, rfl, h⟩ := h
  exact ofBlock_out g i b n w h hn
end Go.Proofs.Ytdkjmpicdkfgoaa
