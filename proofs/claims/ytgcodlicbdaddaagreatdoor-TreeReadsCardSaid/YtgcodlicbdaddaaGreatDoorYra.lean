/-
  A file alone, open to be written, and to be read: what each operation tells.
-/
import Derived.Test.YtgcodlicbdaddaaGreatDoorB45
set_option linter.unusedVariables false
set_option linter.unusedSimpArgs false
namespace Go.Proofs.YtgcodlicbdaddaaGreatDoor
set_option maxRecDepth 100000

def oOF : Opt := ⟨1, 0, 0, 0, 33, [47, 102], [], []⟩
def rtF : Nd := ((tr0.do oOF).2).at 1
/-- a file alone, of the bytes d, open by 0 -/
def S2 (d : List Nat) (W : List Bool) (o : Int) : Tr := ⟨[none, some rtF, some ⟨1, 1, d, W, [], 0, 0, []⟩], z16.set 0 ⟨true, 2, o, 33⟩⟩
/-- by 1, too -/
def S3 (d : List Nat) (W : List Bool) (o p : Int) : Tr := ⟨[none, some rtF, some ⟨1, 1, d, W, [], 0, 0, []⟩], (z16.set 0 ⟨true, 2, o, 33⟩).set 1 ⟨true, 2, p, 0⟩⟩
theorem of_open : tr0.do oOF = (⟨0, 0, 0, 0, [], []⟩, S2 [] wr0 0) := by kernel_rfl
theorem of_open2 (d : List Nat) (W : List Bool) (o : Int) : (S2 d W o).do ⟨1, 0, 0, 0, 0, [47, 102], [], []⟩ = (⟨0, 1, 0, 0, [], []⟩, S3 d W o 0) := by kernel_rfl
theorem of_write (b : List Nat) (hb : b.length ≤ 20000) : ∃ W, (S2 [] wr0 0).do ⟨4, 0, 0, 0, 0, [], [], b⟩ = (⟨0, b.length, 0, 0, [], []⟩, S2 b W b.length) := by
  have e1 : (S2 [] wr0 0).toWrite 0 = 0 := by kernel_rfl
  have e2 : (S2 [] wr0 0).nof 0 = 2 := by kernel_rfl
  have e3 : (S2 [] wr0 0).from 0 = 0 := by kernel_rfl
  have e5 : (S2 [] wr0 0).at 2 = ⟨1, 1, [], wr0, [], 0, 0, []⟩ := rfl
  have e6 : (S2 [] wr0 0).do ⟨4, 0, 0, 0, 0, [], [], b⟩ = (S2 [] wr0 0).write 0 b := by kernel_rfl
  rw [e6]
  unfold Tr.write
  rw [e1, e2, e3, if_neg (by decide)]
  cases b with
  | nil => exact ⟨wr0, rfl⟩
  | cons x r =>
    obtain ⟨l, hl⟩ : ∃ l, x :: r = l := ⟨_, rfl⟩
    have hpos : 0 < l.length := by rw [← hl]; simp
    have hne : l ≠ [] := by rw [← hl]; simp
    rw [hl] at hb ⊢
    have hg : (⟨1, 1, [], wr0, [], 0, 0, []⟩ : Nd).grow (0 + l.length) = ⟨1, 1, List.replicate l.length 0, wr0, [], 0, 0, []⟩ := by
      unfold Nd.grow
      rw [if_pos (by simp; exact hpos)]
      unfold Nd.resize
      rw [if_pos (by simp; exact hpos)]
      simp
    have hX : (⟨1, 1, [], wr0, [], 0, 0, []⟩ : Nd).write 0 l = ⟨1, 1, l, markW (0 / 128) (needB (0 + l.length)) wr0, [], 0, 0, []⟩ := by
      unfold Nd.write
      rw [hg]
      have : splice (List.replicate l.length 0) 0 l = l := by simp [splice]
      show (⟨1, 1, splice (List.replicate l.length 0) 0 l, _, [], 0, 0, []⟩ : Nd) = _
      rw [this]
    have e4 : (S2 [] wr0 0).lay 2 0 l = (0, S2 l (markW (0 / 128) (needB (0 + l.length)) wr0) 0) := by
      unfold Tr.lay
      rw [if_neg (by omega), if_neg hne, e5]
      show ((0 : Int), (S2 [] wr0 0).put 2 ((⟨1, 1, [], wr0, [], 0, 0, []⟩ : Nd).write 0 l)) = _
      rw [hX]
      rfl
    rw [e4]
    rw [if_neg (fun h => h rfl), if_neg hne, Int.zero_add]
    exact ⟨_, rfl⟩
theorem of_read (d : List Nat) (W : List Bool) (o : Int) (p n : Nat) : (S3 d W o p).do ⟨3, 1, n, 0, 0, [], [], []⟩ = (⟨0, 0, 0, 0, (d.drop p).take n, []⟩, S3 d W o ((p + ((d.drop p).take n).length : Nat) : Int)) := by
  have e1 : (S3 d W o p).toRead 1 = 0 := rfl
  show (S3 d W o p).read 1 n = _
  unfold Tr.read
  rw [e1, if_neg (by decide), if_neg (by omega)]
  rfl
theorem of_readAt (d : List Nat) (W : List Bool) (o p : Int) (x n : Nat) : (S3 d W o p).do ⟨5, 1, n, x, 0, [], [], []⟩ = (⟨0, 0, 0, 0, (d.drop x).take n, []⟩, S3 d W o p) := by
  have e1 : (S3 d W o p).toRead 1 = 0 := rfl
  show (S3 d W o p).readAt 1 x n = _
  unfold Tr.readAt
  rw [e1, if_neg (by decide), if_neg (by omega)]
  rfl
theorem of_seek (d : List Nat) (W : List Bool) (o : Int) (p : Nat) (hp : p ≤ 100000) : (S3 d W o p).do ⟨7, 1, 1, 0, 0, [], [], []⟩ = (⟨0, (p : Int), 0, 0, [], []⟩, S3 d W o p) := by
  have e1 : (S3 d W o p).toRead 1 = 0 := rfl
  have e2 : (S3 d W o p).base 1 1 = p := rfl
  show (S3 d W o p).seek 1 0 1 = _
  unfold Tr.seek
  rw [e1, e2, if_neg (by decide), if_neg (by decide), if_neg (by omega), Int.add_zero]
  rfl
theorem of_none (d : List Nat) (W : List Bool) (p : Int) : (S3 d W d.length p).do ⟨3, 0, 9, 0, 0, [], [], []⟩ = (⟨0, 0, 0, 0, [], []⟩, S3 d W d.length p) := by
  have e1 : (S3 d W d.length p).toRead 0 = 0 := rfl
  have e2 : ((S3 d W d.length p).at ((S3 d W d.length p).nof 0)).read ((S3 d W d.length p).plc 0).off.toNat (9 : Int).toNat = [] := by
    show (d.drop ((d.length : Int)).toNat).take 9 = []
    simp
  show (S3 d W d.length p).read 0 9 = _
  unfold Tr.read
  rw [e1, if_neg (by decide), if_neg (by decide), e2]
  show _ = ((⟨0, 0, 0, 0, [], []⟩ : Ans), S3 d W d.length p)
  congr 1
end Go.Proofs.YtgcodlicbdaddaaGreatDoor
