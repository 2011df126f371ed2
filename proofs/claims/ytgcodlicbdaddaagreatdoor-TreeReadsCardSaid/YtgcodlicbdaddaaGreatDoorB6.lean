/-
  A table: each call answers by what it finds.
  What every operation tells of a tree, and leaves.
-/
import Derived.Test.YtgcodlicbdaddaaGreatDoorB5
import Derived.Test.YtgcodlicbdaddaaGreatDoorB2

section
set_option linter.unusedVariables false
set_option linter.unusedSimpArgs false
namespace Go.Proofs.YtgcodlicbdaddaaGreatDoor
open Go.RowKit BigFrame

/-- the least that is free; 16 -/
noncomputable def leastN (L : List Plc) : Nat := Classical.choose (least_ex L)
theorem leastN_is (L : List Plc) : LeastP L (leastN L) := Classical.choose_spec (least_ex L)
/-- what Open answers, and leaves -/
noncomputable def oR (L : List Plc) : Int := if leastN L < 16 then (leastN L : Int) else 0
noncomputable def oC (L : List Plc) : Int := if leastN L < 16 then 0 else 14
noncomputable def oL (L : List Plc) (n f : Int) : List Plc := if leastN L < 16 then openL L (leastN L) n f else L
theorem open_u (a : Nat) (n f : Int) (L : List Plc) (w : World) (h : TabAt w a L) :
    Calls Tryz.prog 132 #[.pointer (some ⟨a, 0, none⟩), .int .i64 n, .int .i64 f] w (GivesT (.tuple #[.int .i64 (oR L), .int .i64 (oC L)]) a (oL L n f) w) := by
  unfold oR oC oL
  by_cases e : leastN L < 16
  · simp only [if_pos e]; exact open_some a _ n f L w h (leastN_is L) e
  · simp only [if_neg e]
    have h16 : leastN L = 16 := by have := (leastN_is L).le; omega
    exact open_full a n f L w h (h16 ▸ leastN_is L)
/-- what Close answers, and leaves -/
def cR (L : List Plc) (fd : Int) : Int := if thereB L fd = true then (pl L fd.toNat).nd else 0
def cC (L : List Plc) (fd : Int) : Int := if thereB L fd = true then 0 else 10
def cL (L : List Plc) (fd : Int) : List Plc := if thereB L fd = true then L.set fd.toNat p0 else L
theorem close_u (a : Nat) (fd : Int) (L : List Plc) (w : World) (h : TabAt w a L) :
    Calls Tryz.prog 133 #[.pointer (some ⟨a, 0, none⟩), .int .i64 fd] w (GivesT (.tuple #[.int .i64 (cR L fd), .int .i64 (cC L fd)]) a (cL L fd) w) := by
  unfold cR cC cL
  cases e : thereB L fd
  · exact close_bad a fd L w h e
  · obtain ⟨k, rfl, hk, ho⟩ := there_k e
    exact close_on a k L w h hk ho
/-- what Move answers, and leaves -/
def mC (L : List Plc) (fd x : Int) : Int := if thereB L fd = true then (if x < 0 then 2 else 0) else 10
def mL (L : List Plc) (fd x : Int) : List Plc := if thereB L fd = true then (if x < 0 then L else L.set fd.toNat ((pl L fd.toNat).to x)) else L
theorem move_u (a : Nat) (fd x : Int) (L : List Plc) (w : World) (h : TabAt w a L) :
    Calls Tryz.prog 137 #[.pointer (some ⟨a, 0, none⟩), .int .i64 fd, .int .i64 x] w (GivesT (.int .i64 (mC L fd x)) a (mL L fd x) w) := by
  unfold mC mL
  cases e : thereB L fd
  · exact move_bad a fd x L w h e
  · obtain ⟨k, rfl, hk, ho⟩ := there_k e
    by_cases e2 : x < 0
    · simp only [if_pos e2]; exact move_neg a k x L w h hk ho e2
    · simp only [if_neg e2]; exact move_to a k x L w h hk ho e2
/-- what Get answers -/
def gP (L : List Plc) (fd : Int) : Plc := if thereB L fd = true then pl L fd.toNat else p0
def gC (L : List Plc) (fd : Int) : Int := if thereB L fd = true then 0 else 10
theorem get_u (a : Nat) (fd : Int) (L : List Plc) (w : World) (h : TabAt w a L) :
    Calls Tryz.prog 96 #[.pointer (some ⟨a, 0, none⟩), .int .i64 fd] w (Tells (.tuple #[gv (gP L fd), .int .i64 (gC L fd)]) w) := by
  unfold gP gC
  cases e : thereB L fd
  · exact get_bad a fd L w h e
  · obtain ⟨k, rfl, hk, ho⟩ := there_k e
    exact get_on a k L w h hk ho
end Go.Proofs.YtgcodlicbdaddaaGreatDoor
end

section
set_option linter.unusedVariables false
set_option linter.unusedSimpArgs false
namespace Go.Proofs.YtgcodlicbdaddaaGreatDoor

/-- the least that is free, reckoned -/
def leastF (L : List Plc) : Nat := ((List.range 16).find? fun j => !(pl L j).on).getD 16
theorem leastF_is (L : List Plc) : LeastP L (leastF L) := by
  unfold leastF
  cases h : (List.range 16).find? fun j => !(pl L j).on with
  | none =>
    refine ⟨Nat.le_refl _, fun j hj => ?_, fun h => by simp at h⟩
    have := List.find?_eq_none.1 h j (List.mem_range.2 hj)
    simpa using this
  | some k =>
    obtain ⟨h1, a, b, hab, h2⟩ := List.find?_eq_some_iff_append.1 h
    have hk := List.mem_range.1 (List.mem_of_find?_eq_some h)
    refine ⟨by simp only [Option.getD_some]; omega, fun j hj => ?_, fun _ => by simpa using h1⟩
    simp only [Option.getD_some] at hj
    have hlen : a.length = k := by
      have e := congrArg (fun l => l[a.length]?) hab
      simp only [List.getElem?_append_right (Nat.le_refl _), Nat.sub_self, List.getElem?_cons_zero] at e
      have ha : a.length < (List.range 16).length := by rw [hab]; simp
      rw [List.getElem?_eq_getElem ha, List.getElem_range] at e
      exact Option.some.inj e
    have hm : j ∈ a := by
      have e : (List.range 16)[j]? = some j := by rw [List.getElem?_range (by omega)]
      rw [hab, List.getElem?_append_left (by omega)] at e
      exact List.mem_of_getElem? e
    have := h2 j hm
    simpa using this
theorem least_one {L : List Plc} {a b : Nat} (ha : LeastP L a) (hb : LeastP L b) : a = b := by
  rcases Nat.lt_trichotomy a b with h | h | h
  · have h1 := hb.on a h
    rw [ha.free (by have := hb.le; omega)] at h1
    cases h1
  · exact h
  · have h1 := ha.on b h
    rw [hb.free (by have := ha.le; omega)] at h1
    cases h1
theorem leastN_eq (L : List Plc) : leastN L = leastF L := least_one (leastN_is L) (leastF_is L)

/-- an operation -/
structure Opt where
  kind : Int
  fd : Int
  n : Int
  off : Int
  fl : Int
  path : List Nat
  to : List Nat
  data : List Nat
/-- an answer -/
structure Ans where
  code : Int
  n : Int
  kind : Int
  links : Int
  data : List Nat
  names : List (List Nat)
def ans0 : Ans := ⟨0, 0, 0, 0, [], []⟩
def ansC (c : Int) : Ans := { ans0 with code := c }

/-- is a flag (1, 2, 4 ..) among them? -/
def bitF (f : Int) (k : Nat) : Bool := f.toNat / k % 2 == 1
def mayOpen (f : Int) : Bool := decide (0 ≤ f) && decide (f ≤ 63) && (bitF f 32 || !(bitF f 4 || bitF f 8))
/-- the node that is to be opened; none, and the place -/
def Tr.toOpen (s : Tr) (p : List Nat) (f : Int) : Int × Nat × Spot :=
  if bitF f 1 = true ∧ ((s.place p).1 ≠ 0 ∨ (s.place p).2.there = 0) then ((s.place p).1, 0, (s.place p).2) else
  if bitF f 1 = true ∧ bitF f 2 = true then (6, 0, spot0) else
  ((s.find p false).1, (s.find p false).2, spot0)
def Tr.cut0 (s : Tr) (i : Nat) (f : Int) : Tr := if bitF f 4 = true then s.put i ((s.at i).resize 0) else s
def Tr.open (s : Tr) (p : List Nat) (f : Int) : Ans × Tr :=
  if mayOpen f = false then (ansC 2, s) else
  if (s.toOpen p f).1 ≠ 0 then (ansC (s.toOpen p f).1, s) else
  if (s.toOpen p f).2.1 ≠ 0 ∧ (s.at (s.toOpen p f).2.1).kind = 2 ∧ bitF f 32 = true then (ansC 8, s) else
  if openC s.tb 16 = 16 then (ansC 14, s) else
  if (s.toOpen p f).2.1 = 0 then
    let u := ((s.make (ndNew 1)).hang (s.toOpen p f).2.2 s.nd.length).cut0 s.nd.length f
    ({ ans0 with n := leastF s.tb }, { u with tb := openL s.tb (leastF s.tb) s.nd.length f })
  else
    let u := s.cut0 (s.toOpen p f).2.1 f
    ({ ans0 with n := leastF s.tb }, { u with tb := openL s.tb (leastF s.tb) ((s.toOpen p f).2.1 : Nat) f })
def Tr.close (s : Tr) (fd : Int) : Ans × Tr :=
  if thereB s.tb fd = true then (ans0, ({ s with tb := s.tb.set fd.toNat p0 } : Tr).leave (pl s.tb fd.toNat).nd.toNat) else (ansC 10, s)
def Tr.plc (s : Tr) (fd : Int) : Plc := pl s.tb fd.toNat
def Tr.nof (s : Tr) (fd : Int) : Nat := (s.plc fd).nd.toNat
def Tr.move (s : Tr) (fd : Int) (x : Int) : Tr := { s with tb := s.tb.set fd.toNat ((s.plc fd).to x) }
/-- the code of a descriptor that is to be read, to be written -/
def Tr.toRead (s : Tr) (fd : Int) : Int := if thereB s.tb fd = true then (if (s.at (s.nof fd)).kind = 2 then 8 else 0) else 10
def Tr.toWrite (s : Tr) (fd : Int) : Int := if thereB s.tb fd = true ∧ bitF (s.plc fd).fl 32 = true then 0 else 10
def Tr.read (s : Tr) (fd n : Int) : Ans × Tr :=
  if s.toRead fd ≠ 0 then (ansC (s.toRead fd), s) else if n < 0 then (ansC 2, s) else
  ({ ans0 with data := (s.at (s.nof fd)).read (s.plc fd).off.toNat n.toNat }, s.move fd ((s.plc fd).off + (((s.at (s.nof fd)).read (s.plc fd).off.toNat n.toNat).length : Nat)))
def Tr.readAt (s : Tr) (fd off n : Int) : Ans × Tr :=
  if s.toRead fd ≠ 0 then (ansC (s.toRead fd), s) else if n < 0 ∨ off < 0 then (ansC 2, s) else
  ({ ans0 with data := (s.at (s.nof fd)).read off.toNat n.toNat }, s)
/-- bytes in a node from a place on -/
def Tr.lay (s : Tr) (i : Nat) (off : Int) (b : List Nat) : Int × Tr :=
  if 20736 - (b.length : Int) < off then (15, s) else if b = [] then (0, s) else (0, s.put i ((s.at i).write off.toNat b))
def Tr.from (s : Tr) (fd : Int) : Int := if bitF (s.plc fd).fl 8 = true then ((s.at (s.nof fd)).size : Int) else (s.plc fd).off
def Tr.write (s : Tr) (fd : Int) (b : List Nat) : Ans × Tr :=
  if s.toWrite fd ≠ 0 then (ansC (s.toWrite fd), s) else
  if (s.lay (s.nof fd) (s.from fd) b).1 ≠ 0 then (ansC (s.lay (s.nof fd) (s.from fd) b).1, s) else
  if b = [] then (ans0, s) else ({ ans0 with n := b.length }, (s.lay (s.nof fd) (s.from fd) b).2.move fd (s.from fd + b.length))
def Tr.writeAt (s : Tr) (fd off : Int) (b : List Nat) : Ans × Tr :=
  if s.toWrite fd ≠ 0 then (ansC (s.toWrite fd), s) else if off < 0 then (ansC 2, s) else
  if (s.lay (s.nof fd) off b).1 ≠ 0 then (ansC (s.lay (s.nof fd) off b).1, s) else ({ ans0 with n := b.length }, (s.lay (s.nof fd) off b).2)
def Tr.base (s : Tr) (fd whence : Int) : Int := if whence = 0 then 0 else if whence = 1 then (s.plc fd).off else ((s.at (s.nof fd)).size : Int)
def Tr.seek (s : Tr) (fd off whence : Int) : Ans × Tr :=
  if s.toRead fd ≠ 0 then (ansC (s.toRead fd), s) else if whence < 0 ∨ 2 < whence then (ansC 2, s) else
  if off < -(s.base fd whence) ∨ 1099511627776 - s.base fd whence < off then (ansC 2, s) else ({ ans0 with n := s.base fd whence + off }, s.move fd (s.base fd whence + off))
def Tr.trunc (s : Tr) (fd size : Int) : Ans × Tr :=
  if s.toWrite fd ≠ 0 then (ansC (s.toWrite fd), s) else if size < 0 then (ansC 2, s) else if 20736 < size then (ansC 15, s) else
  (ans0, s.put (s.nof fd) ((s.at (s.nof fd)).resize size.toNat))

/-- a place at which nothing may stand, at which something must -/
def Tr.free (s : Tr) (p : List Nat) : Int := if (s.place p).1 = 0 ∧ (s.place p).2.there ≠ 0 then 6 else (s.place p).1
def Tr.taken (s : Tr) (p : List Nat) : Int := if (s.place p).1 = 0 ∧ (s.place p).2.there = 0 then 5 else (s.place p).1
/-- a new node, at a place -/
def Tr.fresh (s : Tr) (q : Spot) (x : Nd) : Tr := (s.make x).hang q s.nd.length
def Tr.mkdir (s : Tr) (p : List Nat) : Ans × Tr :=
  if s.free p ≠ 0 then (ansC (s.free p), s) else (ans0, s.fresh (s.place p).2 (ndNew 2))
def Tr.rmdir (s : Tr) (p : List Nat) : Ans × Tr :=
  if s.taken p ≠ 0 then (ansC (s.taken p), s) else
  if (s.at (s.place p).2.there).kind ≠ 2 then (ansC 7, s) else if (s.at (s.place p).2.there).ents.length ≠ 0 then (ansC 9, s) else (ans0, s.lose (s.place p).2)
def Tr.unlink (s : Tr) (p : List Nat) : Ans × Tr :=
  if s.taken p ≠ 0 then (ansC (s.taken p), s) else if (s.at (s.place p).2.there).kind = 2 then (ansC 8, s) else (ans0, s.lose (s.place p).2)
def Tr.link (s : Tr) (p q : List Nat) : Ans × Tr :=
  if (s.find p true).1 ≠ 0 then (ansC (s.find p true).1, s) else if (s.at (s.find p true).2).kind = 2 then (ansC 16, s) else
  if s.free q ≠ 0 then (ansC (s.free q), s) else (ans0, s.hang (s.place q).2 (s.find p true).2)
def Tr.symlink (s : Tr) (t q : List Nat) : Ans × Tr :=
  if codeS 100 t ≠ 0 then (ansC (codeS 100 t), s) else if s.free q ≠ 0 then (ansC (s.free q), s) else (ans0, s.fresh (s.place q).2 { ndNew 3 with data := t })
/-- may a node stand at a place? -/
def Tr.mayMove (s : Tr) (i : Nat) (q : Spot) : Int :=
  if (s.at i).kind = 2 ∧ s.within q.dir i = true then 2 else
  if s.overF 21 i (sizeL (s.path q.dir) + 1 + q.nm.length) ((s.path q.dir).length + 1) = true then 11 else
  if q.there = 0 ∨ q.there = i then 0 else
  if (s.at i).kind = 2 then (if (s.at q.there).kind ≠ 2 then 7 else if (s.at q.there).ents.length ≠ 0 then 9 else 0) else
  if (s.at q.there).kind = 2 then 8 else 0
def Tr.shift (s : Tr) (a b : Spot) : Tr := (if b.there ≠ 0 then (s.take a).lose b else s.take a).hang b a.there
def Tr.rename (s : Tr) (p q : List Nat) : Ans × Tr :=
  if codeL p ≠ 0 then (ansC (codeL p), s) else if codeL q ≠ 0 then (ansC (codeL q), s) else
  if s.taken p ≠ 0 then (ansC (s.taken p), s) else if (s.place q).1 ≠ 0 then (ansC (s.place q).1, s) else
  if s.mayMove (s.place p).2.there (s.place q).2 ≠ 0 then (ansC (s.mayMove (s.place p).2.there (s.place q).2), s) else
  if (s.place p).2.there = (s.place q).2.there then (ans0, s) else (ans0, s.shift (s.place p).2 (s.place q).2)
def Tr.stat (s : Tr) (p : List Nat) (itself : Bool) : Ans :=
  if (s.find p itself).1 ≠ 0 then ansC (s.find p itself).1 else
  { ans0 with n := ((s.at (s.find p itself).2).size : Nat), kind := ((s.at (s.find p itself).2).kind : Nat), links := ((s.at (s.find p itself).2).links : Nat) }
def Tr.readLink (s : Tr) (p : List Nat) : Ans :=
  if (s.find p true).1 ≠ 0 then ansC (s.find p true).1 else if (s.at (s.find p true).2).kind ≠ 3 then ansC 2 else { ans0 with data := (s.at (s.find p true).2).data }
def Tr.readDir (s : Tr) (p : List Nat) : Ans :=
  if (s.find p false).1 ≠ 0 then ansC (s.find p false).1 else if (s.at (s.find p false).2).kind ≠ 2 then ansC 7 else { ans0 with names := (s.at (s.find p false).2).ents.map (·.1) }

/-- what an operation tells, and leaves -/
def Tr.do (s : Tr) (o : Opt) : Ans × Tr :=
  if o.kind = 1 then s.open o.path o.fl else
  if o.kind = 2 then s.close o.fd else
  if o.kind = 3 then s.read o.fd o.n else
  if o.kind = 4 then s.write o.fd o.data else
  if o.kind = 5 then s.readAt o.fd o.off o.n else
  if o.kind = 6 then s.writeAt o.fd o.off o.data else
  if o.kind = 7 then s.seek o.fd o.off o.n else
  if o.kind = 8 then s.trunc o.fd o.off else
  if o.kind = 9 then s.mkdir o.path else
  if o.kind = 10 then s.rmdir o.path else
  if o.kind = 11 then s.unlink o.path else
  if o.kind = 12 then s.link o.path o.to else
  if o.kind = 13 then s.symlink o.path o.to else
  if o.kind = 14 then (s.readLink o.path, s) else
  if o.kind = 15 then s.rename o.path o.to else
  if o.kind = 16 then (s.stat o.path false, s) else
  if o.kind = 17 then (s.stat o.path true, s) else
  if o.kind = 18 then (s.readDir o.path, s) else
  if o.kind = 19 ∨ o.kind = 20 then (if thereB s.tb o.fd = true then ans0 else ansC 10, s) else
  if o.kind = 21 then (ans0, s) else
  if o.kind = 22 ∨ o.kind = 23 then (if o.n < 0 then ansC 2 else ans0, s) else (ansC 2, s)

/-! ### All that there is -/
/-- a node by a path -/
structure Row5 where
  path : List Nat
  num : Nat
  kind : Nat
  links : Nat
  data : List Nat
def Tr.row (s : Tr) (p : List Nat) (i : Nat) : Row5 := ⟨p, i, (s.at i).kind, (s.at i).links, (s.at i).data⟩
/-- a node, and all within it -/
def Tr.belowF (s : Tr) : Nat → List Nat → Nat → List Row5
  | 0, _, _ => []
  | k + 1, p, i => s.row p i :: (s.at i).ents.flatMap fun e => s.belowF k (p ++ 47 :: e.1) e.2
def insR (x : Row5) : List Row5 → List Row5
  | [] => [x]
  | y :: r => if x.path < y.path then x :: y :: r else y :: insR x r
/-- all nodes, by rising paths -/
def Tr.nodes (s : Tr) : List Row5 := ((s.row [47] 1 :: (s.at 1).ents.flatMap fun e => s.belowF 21 (47 :: e.1) e.2)).foldr insR []
def Tr.number (s : Tr) (p : List Nat) : Nat := if (s.find p true).1 ≠ 0 then 0 else (s.find p true).2
/-- how many blocks -/
def blkN (l : List Bool) : Nat :=
  l.count true + (if (l.drop 6).take 12 = List.replicate 12 false then 0 else 1) + (if l.drop 18 = List.replicate 144 false then 0 else 1) +
    ((List.range 12).filter fun k => ((l.drop (18 + 12 * k)).take 12).contains true).length
def Nd.blocks (x : Nd) : Nat := if x.kind = 2 then (x.most + 3) / 4 else if x.kind = 3 then 1 else blkN x.wr
def sumB : List (Option Nd) → Nat
  | [] => 0
  | none :: r => sumB r
  | some x :: r => x.blocks + sumB r
def aliveN : List (Option Nd) → Nat
  | [] => 0
  | none :: r => aliveN r
  | some _ :: r => aliveN r + 1
end Go.Proofs.YtgcodlicbdaddaaGreatDoor
end
