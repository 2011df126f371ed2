/-
  DERIVED: THE SHELF's CONTRACTS AT THIS DUMP, IN PLAIN WORDS (tools/lay-plain.mjs out of 'TryzIter.lean', which tools/lay-shelf.mjs wrote): THE SAME DECLARATIONS UNDER THE SAME NAMES: 'import', 'namespace', 'open', 'def', 'theorem' AND NOTHING ELSE: no command of the shelf's: FOR A HAND-IN. Each laying: the table of numbers ('.._ren') and one theorem, a field a fact of the dump's own or the kernel's comparison; each contract: ONE APPLICATION.
  What is written over texts that were answered, and beyond.
  The names of a directory, rising.
  A directory's names told: list, readdir.
-/
import Derived.Shelf.SlIter.Nil
import Derived.Shelf.SortM.Plain
import Derived.Shelf.SortM.SortNone
import Derived.Shelf.SlSortCmp.WholeK
import Derived.Shelf.SlMaps.Clone
import Derived.Ground.GgzProg
import Derived.Ground.SlgmProg
import Derived.Ground.SlsfProg
import Derived.Ground.SlmcProg
import Derived.Test.YtgcodlicbdaddaaGreatDoorProg
import Derived.Test.YtgcodlicbdaddaaGreatDoorB11
import Derived.Sort.KeysCollected
import Derived.Test.YtgcodlicbdaddaaGreatDoorB19
import Derived.Test.YtgcodlicbdaddaaGreatDoorB15
import Derived.Test.YtgcodlicbdaddaaGreatDoorB23
import Derived.Test.YtgcodlicbdaddaaGreatDoorB13
import Derived.Test.YtgcodlicbdaddaaGreatDoorB33

section
set_option linter.unusedVariables false
set_option linter.unusedSimpArgs false
namespace Go.Proofs
open Go.Shelf
def Tryz.keysOf_ren : Go.Shelf.Ren := ⟨fun | 7 => 183 | 10 => 197 | n => n, fun | 23 => 74 | 26 => 9 | 3 => 3 | 28 => 220 | 0 => 0 | 27 => 219 | 33 => 167 | 4 => 4 | n => n, fun | n => n⟩
theorem Tryz.keysOf : Go.Proofs.SlLaysZ.n7 Tryz.prog Tryz.keysOf_ren := {
  mixed := by kernel_rfl
  f7 := ⟨Tryz.f183.name, by decide, Tryz.func183.trans (congrArg some (by kernel_rfl))⟩
  f10 := ⟨Tryz.f197.name, by decide, Tryz.func197.trans (congrArg some (by kernel_rfl))⟩
  t0 := Tryz.underlying0
  a0 := Tryz.isAgg0
  z0 := Tryz.sizeOf0
  v0 := Tryz.zeroValue0
  t4 := Tryz.underlying4
  a4 := Tryz.isAgg4
  z4 := Tryz.sizeOf4
  v4 := Tryz.zeroValue4
  t23 := Tryz.underlying74
  a23 := Tryz.isAgg74
  z23 := Tryz.sizeOf74
  v23 := Tryz.zeroValue74
  t26 := Tryz.underlying9
  a26 := Tryz.isAgg9
  z26 := Tryz.sizeOf9
  v26 := Tryz.zeroValue9
  t27 := Tryz.underlying219
  a27 := Tryz.isAgg219
  z27 := Tryz.sizeOf219
  v27 := Tryz.zeroValue219
  t28 := Tryz.underlying220
  a28 := Tryz.isAgg220
  z28 := Tryz.sizeOf220
  v28 := Tryz.zeroValue220
  t33 := Tryz.underlying167
  a33 := Tryz.isAgg167
  z33 := Tryz.sizeOf167
  v33 := Tryz.zeroValue167 }
def Tryz.sortedOf_ren : Go.Shelf.Ren := ⟨fun | 6 => 182 | 8 => 195 | 9 => 196 | 11 => 205 | 13 => 123 | 12 => 206 | 23 => 169 | 24 => 170 | 14 => 213 | 15 => 214 | 16 => 215 | 17 => 216 | 18 => 217 | 19 => 218 | 20 => 219 | 21 => 220 | 22 => 221 | 25 => 228 | 26 => 190 | 27 => 191 | 28 => 229 | 29 => 230 | 30 => 124 | 31 => 235 | n => n, fun | 26 => 9 | 28 => 220 | 24 => 36 | 0 => 0 | 3 => 3 | 37 => 121 | 48 => 206 | 50 => 208 | 4 => 4 | 40 => 200 | 39 => 199 | 45 => 169 | 5 => 5 | 9 => 9 | 51 => 225 | 55 => 229 | 57 => 233 | 58 => 45 | 33 => 167 | n => n, fun | n => n⟩
theorem Tryz.sortedOf : Go.Proofs.SlLaysZ.n6 Tryz.prog Tryz.sortedOf_ren := {
  mixed := by kernel_rfl
  f6 := ⟨Tryz.f182.name, by decide, Tryz.func182.trans (congrArg some (by kernel_rfl))⟩
  f8 := ⟨Tryz.f195.name, by decide, Tryz.func195.trans (congrArg some (by kernel_rfl))⟩
  f11 := ⟨Tryz.f205.name, by decide, Tryz.func205.trans (congrArg some (by kernel_rfl))⟩
  t0 := Tryz.underlying0
  a0 := Tryz.isAgg0
  z0 := Tryz.sizeOf0
  v0 := Tryz.zeroValue0
  t24 := Tryz.underlying36
  a24 := Tryz.isAgg36
  z24 := Tryz.sizeOf36
  v24 := Tryz.zeroValue36
  t26 := Tryz.underlying9
  a26 := Tryz.isAgg9
  z26 := Tryz.sizeOf9
  v26 := Tryz.zeroValue9
  t28 := Tryz.underlying220
  a28 := Tryz.isAgg220
  z28 := Tryz.sizeOf220
  v28 := Tryz.zeroValue220
  i26 := by kernel_rfl }
def Tryz.sortOf_ren : Go.Shelf.Ren := ⟨fun | 6 => 196 | 8 => 123 | 9 => 206 | 19 => 169 | 20 => 170 | 21 => 213 | 22 => 214 | 23 => 215 | 24 => 216 | 25 => 217 | 26 => 218 | 27 => 219 | 28 => 220 | 29 => 221 | 36 => 228 | 31 => 190 | 32 => 191 | 37 => 229 | 38 => 230 | 39 => 124 | 41 => 235 | n => n, fun | 27 => 36 | 29 => 9 | 3 => 3 | 32 => 121 | 26 => 36 | 0 => 0 | 44 => 206 | 46 => 208 | 4 => 4 | 36 => 200 | 35 => 199 | 41 => 169 | 5 => 5 | 9 => 9 | 53 => 225 | 57 => 229 | 63 => 233 | 64 => 45 | n => n, fun | n => n⟩
theorem Tryz.sortOf : Go.Proofs.SlLaysM.n6 Tryz.prog Tryz.sortOf_ren := {
  mixed := by kernel_rfl
  f6 := ⟨Tryz.f196.name, by decide, Tryz.func196.trans (congrArg some (by kernel_rfl))⟩
  f8 := Tryz.func123.trans (congrArg some (by kernel_rfl))
  f9 := ⟨Tryz.f206.name, by decide, Tryz.func206.trans (congrArg some (by kernel_rfl))⟩
  f19 := Tryz.func169.trans (congrArg some (by kernel_rfl))
  f20 := Tryz.func170.trans (congrArg some (by kernel_rfl))
  f21 := ⟨Tryz.f213.name, by decide, Tryz.func213.trans (congrArg some (by kernel_rfl))⟩
  f22 := ⟨Tryz.f214.name, by decide, Tryz.func214.trans (congrArg some (by kernel_rfl))⟩
  f23 := ⟨Tryz.f215.name, by decide, Tryz.func215.trans (congrArg some (by kernel_rfl))⟩
  f24 := ⟨Tryz.f216.name, by decide, Tryz.func216.trans (congrArg some (by kernel_rfl))⟩
  f25 := ⟨Tryz.f217.name, by decide, Tryz.func217.trans (congrArg some (by kernel_rfl))⟩
  f26 := ⟨Tryz.f218.name, by decide, Tryz.func218.trans (congrArg some (by kernel_rfl))⟩
  f27 := ⟨Tryz.f219.name, by decide, Tryz.func219.trans (congrArg some (by kernel_rfl))⟩
  f28 := ⟨Tryz.f220.name, by decide, Tryz.func220.trans (congrArg some (by kernel_rfl))⟩
  f29 := ⟨Tryz.f221.name, by decide, Tryz.func221.trans (congrArg some (by kernel_rfl))⟩
  f31 := Tryz.func190.trans (congrArg some (by kernel_rfl))
  f32 := Tryz.func191.trans (congrArg some (by kernel_rfl))
  f36 := ⟨Tryz.f228.name, by decide, Tryz.func228.trans (congrArg some (by kernel_rfl))⟩
  f37 := ⟨Tryz.f229.name, by decide, Tryz.func229.trans (congrArg some (by kernel_rfl))⟩
  f38 := ⟨Tryz.f230.name, by decide, Tryz.func230.trans (congrArg some (by kernel_rfl))⟩
  f39 := ⟨Tryz.f124.name, by decide, Tryz.func124.trans (congrArg some (by kernel_rfl))⟩
  f41 := ⟨Tryz.f235.name, by decide, Tryz.func235.trans (congrArg some (by kernel_rfl))⟩
  t0 := Tryz.underlying0
  a0 := Tryz.isAgg0
  z0 := Tryz.sizeOf0
  v0 := Tryz.zeroValue0
  t3 := Tryz.underlying3
  a3 := Tryz.isAgg3
  z3 := Tryz.sizeOf3
  v3 := Tryz.zeroValue3
  t4 := Tryz.underlying4
  a4 := Tryz.isAgg4
  z4 := Tryz.sizeOf4
  v4 := Tryz.zeroValue4
  t5 := Tryz.underlying5
  a5 := Tryz.isAgg5
  z5 := Tryz.sizeOf5
  v5 := Tryz.zeroValue5
  t9 := Tryz.underlying9
  a9 := Tryz.isAgg9
  z9 := Tryz.sizeOf9
  v9 := Tryz.zeroValue9
  t26 := Tryz.underlying36
  a26 := Tryz.isAgg36
  z26 := Tryz.sizeOf36
  v26 := Tryz.zeroValue36
  t27 := Tryz.underlying36
  a27 := Tryz.isAgg36
  z27 := Tryz.sizeOf36
  v27 := Tryz.zeroValue36
  t29 := Tryz.underlying9
  a29 := Tryz.isAgg9
  z29 := Tryz.sizeOf9
  v29 := Tryz.zeroValue9
  t32 := Tryz.underlying121
  a32 := Tryz.isAgg121
  z32 := Tryz.sizeOf121
  v32 := Tryz.zeroValue121
  t35 := Tryz.underlying199
  a35 := Tryz.isAgg199
  z35 := Tryz.sizeOf199
  v35 := Tryz.zeroValue199
  t36 := Tryz.underlying200
  a36 := Tryz.isAgg200
  z36 := Tryz.sizeOf200
  v36 := Tryz.zeroValue200
  t41 := Tryz.underlying169
  a41 := Tryz.isAgg169
  z41 := Tryz.sizeOf169
  v41 := Tryz.zeroValue169
  t44 := Tryz.underlying206
  a44 := Tryz.isAgg206
  z44 := Tryz.sizeOf206
  v44 := Tryz.zeroValue206
  t46 := Tryz.underlying208
  a46 := Tryz.isAgg208
  z46 := Tryz.sizeOf208
  v46 := Tryz.zeroValue208
  t53 := Tryz.underlying225
  a53 := Tryz.isAgg225
  z53 := Tryz.sizeOf225
  v53 := Tryz.zeroValue225
  t57 := Tryz.underlying229
  a57 := Tryz.isAgg229
  z57 := Tryz.sizeOf229
  v57 := Tryz.zeroValue229
  t63 := Tryz.underlying233
  a63 := Tryz.isAgg233
  z63 := Tryz.sizeOf233
  v63 := Tryz.zeroValue233
  t64 := Tryz.underlying45
  a64 := Tryz.isAgg45
  z64 := Tryz.sizeOf45
  v64 := Tryz.zeroValue45 }
def Tryz.sortNodes_ren : Go.Shelf.Ren := ⟨fun | 6 => 70 | 15 => 123 | 14 => 122 | 28 => 169 | 29 => 170 | 20 => 161 | 21 => 162 | 22 => 163 | 23 => 164 | 24 => 165 | 25 => 166 | 26 => 167 | 27 => 168 | 46 => 189 | 47 => 190 | 48 => 191 | 49 => 192 | 50 => 193 | 57 => 201 | n => n, fun | 22 => 48 | 24 => 59 | 25 => 111 | 3 => 3 | 39 => 121 | 0 => 0 | 53 => 206 | 55 => 208 | 4 => 4 | 46 => 200 | 45 => 199 | 50 => 169 | 5 => 5 | 9 => 9 | 66 => 225 | 70 => 229 | 76 => 233 | 77 => 45 | n => n, fun | n => n⟩
theorem Tryz.sortNodes : Go.Proofs.SlLaysF0.n6 Tryz.prog Tryz.sortNodes_ren := {
  mixed := by kernel_rfl
  f6 := ⟨Tryz.f70.name, by decide, Tryz.func70.trans (congrArg some (by kernel_rfl))⟩
  f14 := ⟨Tryz.f122.name, by decide, Tryz.func122.trans (congrArg some (by kernel_rfl))⟩
  f15 := Tryz.func123.trans (congrArg some (by kernel_rfl))
  f20 := ⟨Tryz.f161.name, by decide, Tryz.func161.trans (congrArg some (by kernel_rfl))⟩
  f21 := ⟨Tryz.f162.name, by decide, Tryz.func162.trans (congrArg some (by kernel_rfl))⟩
  f22 := ⟨Tryz.f163.name, by decide, Tryz.func163.trans (congrArg some (by kernel_rfl))⟩
  f23 := ⟨Tryz.f164.name, by decide, Tryz.func164.trans (congrArg some (by kernel_rfl))⟩
  f24 := ⟨Tryz.f165.name, by decide, Tryz.func165.trans (congrArg some (by kernel_rfl))⟩
  f25 := ⟨Tryz.f166.name, by decide, Tryz.func166.trans (congrArg some (by kernel_rfl))⟩
  f26 := ⟨Tryz.f167.name, by decide, Tryz.func167.trans (congrArg some (by kernel_rfl))⟩
  f27 := ⟨Tryz.f168.name, by decide, Tryz.func168.trans (congrArg some (by kernel_rfl))⟩
  f28 := Tryz.func169.trans (congrArg some (by kernel_rfl))
  f29 := Tryz.func170.trans (congrArg some (by kernel_rfl))
  f46 := ⟨Tryz.f189.name, by decide, Tryz.func189.trans (congrArg some (by kernel_rfl))⟩
  f47 := Tryz.func190.trans (congrArg some (by kernel_rfl))
  f48 := Tryz.func191.trans (congrArg some (by kernel_rfl))
  f49 := ⟨Tryz.f192.name, by decide, Tryz.func192.trans (congrArg some (by kernel_rfl))⟩
  f50 := ⟨Tryz.f193.name, by decide, Tryz.func193.trans (congrArg some (by kernel_rfl))⟩
  f57 := ⟨Tryz.f201.name, by decide, Tryz.func201.trans (congrArg some (by kernel_rfl))⟩
  t0 := Tryz.underlying0
  a0 := Tryz.isAgg0
  z0 := Tryz.sizeOf0
  v0 := Tryz.zeroValue0
  t3 := Tryz.underlying3
  a3 := Tryz.isAgg3
  z3 := Tryz.sizeOf3
  v3 := Tryz.zeroValue3
  t4 := Tryz.underlying4
  a4 := Tryz.isAgg4
  z4 := Tryz.sizeOf4
  v4 := Tryz.zeroValue4
  t5 := Tryz.underlying5
  a5 := Tryz.isAgg5
  z5 := Tryz.sizeOf5
  v5 := Tryz.zeroValue5
  t9 := Tryz.underlying9
  a9 := Tryz.isAgg9
  z9 := Tryz.sizeOf9
  v9 := Tryz.zeroValue9
  t22 := Tryz.underlying48
  a22 := Tryz.isAgg48
  z22 := Tryz.sizeOf48
  v22 := Tryz.zeroValue48
  t25 := Tryz.underlying111
  a25 := Tryz.isAgg111
  z25 := Tryz.sizeOf111
  v25 := Tryz.zeroValue111
  t39 := Tryz.underlying121
  a39 := Tryz.isAgg121
  z39 := Tryz.sizeOf121
  v39 := Tryz.zeroValue121
  t45 := Tryz.underlying199
  a45 := Tryz.isAgg199
  z45 := Tryz.sizeOf199
  v45 := Tryz.zeroValue199
  t46 := Tryz.underlying200
  a46 := Tryz.isAgg200
  z46 := Tryz.sizeOf200
  v46 := Tryz.zeroValue200
  t50 := Tryz.underlying169
  a50 := Tryz.isAgg169
  z50 := Tryz.sizeOf169
  v50 := Tryz.zeroValue169
  t53 := Tryz.underlying206
  a53 := Tryz.isAgg206
  z53 := Tryz.sizeOf206
  v53 := Tryz.zeroValue206
  t55 := Tryz.underlying208
  a55 := Tryz.isAgg208
  z55 := Tryz.sizeOf208
  v55 := Tryz.zeroValue208
  t66 := Tryz.underlying225
  a66 := Tryz.isAgg225
  z66 := Tryz.sizeOf225
  v66 := Tryz.zeroValue225
  t70 := Tryz.underlying229
  a70 := Tryz.isAgg229
  z70 := Tryz.sizeOf229
  v70 := Tryz.zeroValue229
  t76 := Tryz.underlying233
  a76 := Tryz.isAgg233
  z76 := Tryz.sizeOf233
  v76 := Tryz.zeroValue233
  t77 := Tryz.underlying45
  a77 := Tryz.isAgg45
  z77 := Tryz.sizeOf45
  v77 := Tryz.zeroValue45 }
def Tryz.cloneEnts_ren : Go.Shelf.Ren := ⟨fun | 5 => 125 | 7 => 171 | n => n, fun | 23 => 74 | 25 => 9 | 3 => 3 | 4 => 4 | 20 => 20 | n => n, fun | n => n⟩
theorem Tryz.cloneEnts : Go.Proofs.SlLaysW.n5 Tryz.prog Tryz.cloneEnts_ren := {
  mixed := by kernel_rfl
  f5 := ⟨Tryz.f125.name, by decide, Tryz.func125.trans (congrArg some (by kernel_rfl))⟩
  f7 := Tryz.func171.trans (congrArg some (by kernel_rfl))
  t4 := Tryz.underlying4
  a4 := Tryz.isAgg4
  z4 := Tryz.sizeOf4
  v4 := Tryz.zeroValue4
  t20 := Tryz.underlying20
  a20 := Tryz.isAgg20
  z20 := Tryz.sizeOf20
  v20 := Tryz.zeroValue20
  t23 := Tryz.underlying74
  a23 := Tryz.isAgg74
  z23 := Tryz.sizeOf74
  v23 := Tryz.zeroValue74 }
end Go.Proofs
end

section
set_option linter.unusedVariables false
set_option linter.unusedSimpArgs false
namespace Go.Proofs.YtgcodlicbdaddaaGreatDoor
open Go.RowKit BigFrame

def overS : List Nat := [111, 118, 101, 114]
theorem tl_set (L : List (List Nat)) (k : Nat) (p : List Nat) : (tl L).set k (.string (strOf p)) = tl (L.set k p) := by simp [tl, List.map_set]
theorem OwnT.set {w : World} {base g n cap : Nat} {L : List (List Nat)} (h : OwnT w base (.slice (some ⟨g, 0, none⟩) n cap) L) (k : Nat) (p : List Nat) : OwnT (w.setCell ⟨g, k, none⟩ (.string (strOf p))) base (.slice (some ⟨g, 0, none⟩) n cap) (L.set k p) := by
  rcases h.2 with ⟨e, _⟩ | ⟨g', cap', cur, e, hb, hg, hnc, hcm, hcs, ht⟩
  · cases e
  · simp only [Value.slice.injEq, Option.some.injEq, Addr.mk.injEq, and_true] at e
    obtain ⟨rfl, rfl, rfl⟩ := e
    have e := setCell_eq_setRow w g k _ _ _ (.string (strOf p)) hg
    refine ⟨by rw [tl_length, Nat.mul_one], .inr ⟨g, cap, cur.setIfInBounds k (.string (strOf p)), by rw [List.length_set], hb, ?_, by rw [List.length_set]; exact hnc, hcm, by simpa using hcs, ?_⟩⟩
    · rw [e]
      exact setRow_heap w g _ _ _ _ hg
    · rw [← tl_set, ← ht, List.length_set]
      simp [List.take_set]
theorem OwnT.cellAt {w : World} {base g n cap k : Nat} {L : List (List Nat)} (h : OwnT w base (.slice (some ⟨g, 0, none⟩) n cap) L) (hk : k < L.length) : w.cell? ⟨g, k, none⟩ = some (.string (strOf (tz L k))) ∧ w.frozen? ⟨g, k, none⟩ = false := by
  refine ⟨by have := h.tat.1.cell hk; rwa [Nat.zero_add] at this, ?_⟩
  rcases h.2 with ⟨e, _⟩ | ⟨g', cap', cur, e, _, hg, _⟩
  · cases e
  · cases e
    simp [World.frozen?, hg]
theorem grownT_trans {a b c : World} {r : Option Nat} (h1 : a.grownBy b r) (h2 : b.grownBy c r) : a.grownBy c r :=
  ⟨h2.os.trans h1.os, h2.tape.trans h1.tape, h2.output.trans h1.output, Nat.le_trans h1.size h2.size, fun k hk hne => (h2.block k (Nat.lt_of_lt_of_le hk h1.size) hne).trans (h1.block k hk hne)⟩
theorem grownT_setCell (w : World) (g k : Nat) (v : Value) : w.grownBy (w.setCell ⟨g, k, none⟩ v) (some g) :=
  ⟨rfl, rfl, rfl, by simp [World.setCell], fun j _ hne => Below.heap_setCell _ _ _ _ (fun e => hne (by rw [e]))⟩
/-- behind it: nothing but that block has turned -/
def OverT (r : Option Nat) (w : World) (e : Ending) (w' : World) : Prop := e = .returned (.tuple #[]) ∧ w.grownBy w' r
def OvTRel (base g n cap : Nat) (w : World) (i : Value) (wr : World) : Prop :=
  ∃ (k : Nat) (L : List (List Nat)), k ≤ n ∧ i = .int .i64 k ∧ OwnT wr base (.slice (some ⟨g, 0, none⟩) n cap) L ∧ L.length = n ∧ w.grownBy wr (some g)
set_option maxHeartbeats 400000 in
theorem overT_some (base g n cap : Nat) (L : List (List Nat)) (w : World) (hn : L.length = n) (hl : n ≤ 100000) (hr : OwnT w base (.slice (some ⟨g, 0, none⟩) n cap) L) (hb : base ≤ w.heap.size) :
    Calls Tryz.prog 27 #[.slice (some ⟨g, 0, none⟩) n cap] w (OverT (some g) w) := by
  have hn' := Lib.hid hn
  have hr' := Lib.hid hr
  clear hn hr
  have hs : ({ data := #[111, 118, 101, 114] } : ByteArray) = strOf overS := rfl
  obtain ⟨so, hso⟩ : ∃ so : ByteArray, so = { data := #[111, 118, 101, 114] } := ⟨_, rfl⟩
  go_enter Tryz.func27, Tryz.ntmps27
  go_wp2_with fail
  go_loopw [2] (fun i wr => OvTRel base g n cap w i wr) (fun i _ => n - (intOf i).toNat)
  case atStart => exact ⟨0, L, by omega, rfl, hr'.out, hn'.out, World.grownBy.refl _ _⟩
  case round =>
    obtain ⟨k, M, hk, rfl, hR, hM, hB⟩ := hrel
    by_cases hlt : k < n
    · obtain ⟨c1, c2⟩ := hR.cellAt (k := k) (by omega)
      have hend := Lib.hid (show OvTRel base g n cap w (.int .i64 ((k : Int) + 1)) (wr.setCell ⟨g, k, none⟩ (.string { data := #[111, 118, 101, 114] })) from ⟨k + 1, M.set k overS, by omega, by go_num, hR.set k overS, by rw [List.length_set, hM], grownT_trans hB (grownT_setCell _ _ _ _)⟩)
      obtain ⟨x, hx⟩ : ∃ x, strOf (tz M k) = x := ⟨_, rfl⟩
      rw [hx] at c1
      clear hR hB hM hx
      go_wp2_with fail
      exact ⟨hend.out, by simp [intOf]; omega⟩
    · have hO' := Lib.hid (hR.alloc (.cells #[.string { data := #[111, 118, 101, 114] }] 9))
      have hN' := Lib.hid (show TAt (wr.alloc (.cells #[.string { data := #[111, 118, 101, 114] }] 9)) (some ⟨wr.heap.size, 0, none⟩) [overS] from text_new wr overS)
      have hB' := Lib.hid (grownT_trans hB (World.grownBy_alloc wr (.cells #[.string { data := #[111, 118, 101, 114] }] 9) (some g)))
      have hz' := Lib.hid (Nat.le_trans hb hB'.out.size)
      have hM' := Lib.hid hM
      clear hR hB hM
      go_wp2_with (at_builtin; refine wpList_append_texts rfl (.tmp 12) (.tmp 13) rfl base _ M rfl hO'.out ⟨wr.heap.size, 0, none⟩ 1 1 [overS] rfl rfl hN'.out (by rw [hM'.out]; omega) hz'.out ?_)
      intro v' w' _ hg2 _
      have hend := Lib.hid (grownT_trans hB'.out hg2)
      clear hg2
      go_wp2_with fail
      go_end0
      exact ⟨rfl, hend.out⟩
theorem overT_nil (w : World) : Calls Tryz.prog 27 #[.slice none 0 0] w (OverT none w) := by
  have hN' := Lib.hid (show TAt (w.alloc (.cells #[.string { data := #[111, 118, 101, 114] }] 9)) (some ⟨w.heap.size, 0, none⟩) [overS] from text_new w overS)
  have hB' := Lib.hid (World.grownBy_alloc w (.cells #[.string { data := #[111, 118, 101, 114] }] 9) none)
  have hz' := Lib.hid hB'.out.size
  go_enter Tryz.func27, Tryz.ntmps27
  go_wp2_with fail
  go_loopw [2] (fun i wr => i = .int .i64 0 ∧ wr = w) (fun _ _ => 0)
  case atStart => exact ⟨rfl, rfl⟩
  case round =>
    obtain ⟨rfl, rfl⟩ := hrel
    go_wp2_with (at_builtin; refine wpList_append_texts rfl (.tmp 12) (.tmp 13) rfl wr.heap.size _ [] rfl (OwnT.nil _ _) ⟨wr.heap.size, 0, none⟩ 1 1 [overS] rfl rfl hN'.out (by decide) hz'.out ?_)
    intro v' w' _ hg2 _
    have hend := Lib.hid (grownT_trans hB'.out hg2)
    clear hg2
    go_wp2_with fail
    go_end0
    exact ⟨rfl, hend.out⟩
/-- any texts of one's own -/
theorem overT_own (base : Nat) (v : Value) (L : List (List Nat)) (w : World) (hl : L.length ≤ 100000) (hr : OwnT w base v L) (hb : base ≤ w.heap.size) :
    Calls Tryz.prog 27 #[v] w (OverT v.ownBlock w) := by
  rcases hr.2 with ⟨rfl, _⟩ | ⟨g, cap, cur, rfl, _⟩
  · exact overT_nil w
  · exact overT_some base g L.length cap L w rfl hl hr hb
end Go.Proofs.YtgcodlicbdaddaaGreatDoor
end

section
set_option linter.unusedVariables false
set_option linter.unusedSimpArgs false
namespace Go.Proofs.YtgcodlicbdaddaaGreatDoor
open Go.RowKit BigFrame Go.Sort Go.Shelf
set_option maxRecDepth 100000

/-! ### Keys, sorted -/
theorem u8s_lt : ∀ {p q : List Nat}, Octs p → Octs q → p < q → u8s p < u8s q
  | p, [], _, _, h => absurd h (List.not_lt_nil p)
  | [], b :: q, _, _, _ => List.nil_lt_cons _ _
  | a :: p, b :: q, hp, hq, h => by
    have h1 : a < 256 := hp 0 (by simp)
    have h2 : b < 256 := hq 0 (by simp)
    have hp' : Octs p := fun k hk => by have := hp (k + 1) (by simpa using hk); simpa [bz] using this
    have hq' : Octs q := fun k hk => by have := hq (k + 1) (by simpa using hk); simpa [bz] using this
    show UInt8.ofNat a :: u8s p < UInt8.ofNat b :: u8s q
    rw [List.cons_lt_cons_iff] at h ⊢
    rcases h with h | ⟨rfl, h⟩
    · refine .inl ?_
      rw [UInt8.lt_iff_toNat_lt]
      simp only [UInt8.toNat_ofNat']
      omega
    · exact .inr ⟨rfl, u8s_lt hp' hq' h⟩
theorem keys_sorted {l : List (List Nat × Nat)} (hs : l.Pairwise fun p q => p.1 < q.1) (ho : ∀ e ∈ l, Octs e.1) {ss : List (List UInt8)} (hp : ss.Perm (strKeys (DataW.map ((entsL l).map entW) : DataW Value))) : ss.mergeSort (fun x y => decide (x ≤ y)) = l.map fun e => u8s e.1 := by
  have e1 : strKeys (DataW.map ((entsL l).map entW) : DataW Value) = l.map fun e => u8s e.1 := by
    unfold strKeys entsL
    simp only [List.map_map]
    rfl
  rw [e1] at hp
  have h1 := mergeSort_of_perm hp
  refine h1.trans (List.mergeSort_of_pairwise ?_)
  rw [List.pairwise_map]
  refine List.Pairwise.imp_of_mem ?_ hs
  intro a b ha hb hab
  exact decide_eq_true (List.le_of_lt (u8s_lt (ho a ha) (ho b hb) hab))
theorem tl_names (l : List (List Nat × Nat)) : (l.map fun e => u8s e.1).map encStr = tl (l.map (·.1)) := by
  unfold tl
  simp only [List.map_map]
  rfl
section
variable {w : World} {B b : Nat} {A : Ad} {s : Tr}
theorem keys_c (mb : Option Nat) (W : World) : Calls Tryz.prog 183 #[.map mb] W fun e w' => e = .returned (.func (.func 197) #[] #[.pointer (some ⟨W.heap.size, 0, none⟩)]) ∧ w' = W.alloc (.cells #[.map mb] 74) :=
  (callsIn_wide (n := 5)).1 (AnyZ.keys_in Tryz.keysOf Fence.wide 5 trivial rfl mb W)
theorem sorts_in (m : Nat) : AnyZ.SortsIn Tryz.prog Tryz.sortedOf_ren Fence.wide m :=
  ⟨fun blk off cap ss W hH hblk hsz => callsIn_wide.2 (AnyM.slices_Sort_string Tryz.sortOf blk off cap ss W hH hblk hsz),
   fun p cap W => callsIn_wide.2 (AnyM.slices_Sort_string_none Tryz.sortOf p cap W)⟩
set_option maxHeartbeats 1000000 in
theorem sorted_c (eb : Nat) (l : List (List Nat × Nat)) (w : World) (hm : MapAt 9 w eb (entsL l)) (hs : l.Pairwise fun p q => p.1 < q.1) (ho : ∀ e ∈ l, Octs e.1) (hn : l.length ≤ 1000000) :
    Calls Tryz.prog 182 #[.func (.func 197) #[] #[.pointer (some ⟨w.heap.size, 0, none⟩)]] (w.alloc (.cells #[.map (some eb)] 74)) fun e w' => ∃ v, e = .returned v ∧ OwnT w' w.heap.size v (l.map (·.1)) ∧ Below w.heap.size w w' := by
  have hown : w.ownsMap Tryz.prog 9 tokE eb (entsL l).length (.map ((entsL l).map entW)) := hm
  have hbl := hown.lt
  have hsz : Maps.size (DataW.map ((entsL l).map entW) : DataW Value) = l.length := by rw [Maps.size_eq]; simp [entsL]
  have hseq : SeqGives Fence.wide 2 Tryz.prog 197 #[.pointer (some ⟨w.heap.size, 0, none⟩)] encStr (fun ss => ss.Perm (strKeys (DataW.map ((entsL l).map entW) : DataW Value))) (Maps.size (DataW.map ((entsL l).map entW) : DataW Value)) (w.alloc (.cells #[.map (some eb)] 74)) :=
    AnyZ.keys_gives (ρ := Tryz.keysOf_ren) { Tryz.keysOf with } Fence.wide _ trivial rfl (by omega) w.heap.size eb (entsL l).length _ _ (by simp) (by simp) (by
      obtain ⟨es, clock, hb, Ft, hs, hD⟩ := hown
      exact ⟨es, clock, (Below.heap_alloc _ _ eb hbl).trans hb, Ft, hs, hD⟩)
  have h := AnyZ.sorted_in Tryz.sortedOf Fence.wide 5 trivial trivial trivial trivial rfl (by omega) (sorts_in _) (enters_of Tryz.func196 (by kernel_rfl) rfl) 197 #[.pointer (some ⟨w.heap.size, 0, none⟩)] trivial (enters_of Tryz.func197 (by kernel_rfl) rfl) _ _ (by rw [hsz]; unfold maxLen; omega) (by rw [hsz]; omega) _ hseq
  refine ((callsIn_wide (n := 5)).1 h).mono ?_
  rintro e w' ⟨v, ss, rfl, hp, hr, _, hb⟩
  rw [keys_sorted hs ho hp, tl_names] at hr
  have hl : ss.length = (l.map (·.1)).length := by
    rw [hp.length_eq]
    show (strKeys (DataW.map ((entsL l).map entW) : DataW Value)).length = _
    unfold strKeys entsL
    simp
  rw [hl] at hr
  have hr2 : OwnT w' (w.alloc (.cells #[.map (some eb)] 74)).heap.size v (l.map (·.1)) := hr
  exact ⟨v, rfl, hr2.lower (by simp), ((Below.refl w.heap.size w).alloc (Nat.le_refl _) _).trans (hb.mono (by simp))⟩
end
end Go.Proofs.YtgcodlicbdaddaaGreatDoor
end

section
set_option linter.unusedVariables false
set_option linter.unusedSimpArgs false
namespace Go.Proofs.YtgcodlicbdaddaaGreatDoor
open Go.RowKit BigFrame
set_option maxRecDepth 100000

section
variable {w : World} {B b : Nat} {A : Ad} {s : Tr}
def LsRel (base g n cap : Nat) (L : List (List Nat)) (w : World) (i : Value) (wr : World) : Prop :=
  ∃ k : Nat, k ≤ n ∧ i = .int .i64 k ∧ OwnT wr base (.slice (some ⟨g, 0, none⟩) n cap) L ∧ Below base w wr
theorem set_same {L : List (List Nat)} {k : Nat} (h : k < L.length) : L.set k (tz L k) = L := by
  rw [tz_get h, List.set_getElem_self]
set_option maxHeartbeats 2000000 in
theorem names_any (w : World) {a i : Nat} {x : Nd} {v en : Value} (hN : NodeAt w B a i x v en) (hk : x.kind = 2) (hok : NodeOk b x) (hb : b ≤ 900000) :
    Calls Tryz.prog 148 #[.pointer (some ⟨a, 0, none⟩)] w fun e w' => ∃ v, e = .returned v ∧ OwnT w' w.heap.size v (x.ents.map (·.1)) ∧ Below w.heap.size w w' := by
  obtain ⟨eb, rfl, _, hm⟩ := hN.ents.dir hk
  have ce := hN.ent
  obtain ⟨l, hl⟩ : ∃ l, x.ents = l := ⟨_, rfl⟩
  have hs := hok.sorted
  have ho : ∀ e ∈ x.ents, Octs e.1 := fun e he => (hok.names e he).octs
  have hno := Lib.hid (show ∀ e ∈ x.ents, e.1.length ≤ 24 from fun e he => (hok.names e he).long)
  have hfew := hok.few
  rw [hl] at hm hs ho hno hfew ⊢
  have hsc := Lib.hid (sorted_c eb l w hm hs ho (by omega))
  obtain ⟨L, hL⟩ : ∃ L, l.map (·.1) = L := ⟨_, rfl⟩
  have hLl := Lib.hid (show ∀ p ∈ L, p.length ≤ 24 by
    rw [← hL]
    intro p hp
    obtain ⟨e, he, rfl⟩ := List.mem_map.1 hp
    exact hno.out e he)
  have hfew' := Lib.hid (show L.length ≤ 900000 by rw [← hL, List.length_map]; omega)
  rw [hL] at hsc ⊢
  clear hm hs ho hN hl hno hfew hL hok hk
  go_enter Tryz.func148, Tryz.ntmps148
  go_upto_region 2 with (first
    | (go_at_call 183; refine (keys_c _ _).mono ?_; rintro e w1 ⟨rfl, rfl⟩)
    | (go_at_call 182; refine hsc.out.mono ?_; rintro e w2 ⟨v2, rfl, ho2, hb2⟩; have O2 := Lib.hid ho2; have B2 := Lib.hid hb2; clear ho2 hb2))
  have hform : v2 = .slice none 0 0 ∨ ∃ g cap, v2 = .slice (some ⟨g, 0, none⟩) L.length cap := by
    rcases O2.out.2 with ⟨h1, h0⟩ | ⟨g, cap, cur, h1, _⟩
    · exact .inl h1
    · exact .inr ⟨g, cap, h1⟩
  clear hsc
  rcases hform with rfl | ⟨g, cap, rfl⟩
  · go_wp2_with fail
    refine wp_loop_rounds 1 ?_
    rw [rounds_succ]
    go_wp2_with fail
    go_ret
    exact ⟨_, rfl, O2.out, B2.out⟩
  · go_wp2_with fail
    go_loopw [14] (fun i wr => LsRel w.heap.size g L.length cap L w i wr) (fun i _ => L.length - (intOf i).toNat)
    case atStart => exact ⟨0, Nat.zero_le _, rfl, O2.out, B2.out⟩
    case round =>
      obtain ⟨k, hkn, rfl, hR, hB⟩ := hrel
      by_cases hlt : k < L.length
      · have t0 : decide ((k : Int) < (L.length : Int)) = true := decide_eq_true (by omega)
        have hkb : k ≤ 900000 := by have := hfew'.out; omega
        obtain ⟨c1, c2⟩ := hR.cellAt hlt
        have hR' := Lib.hid hR
        have hB' := Lib.hid hB
        obtain ⟨z, hz⟩ : ∃ z, strOf (tz L k) = z := ⟨_, rfl⟩
        have hzl := Lib.hid (show z.size ≤ 1000000 by rw [← hz, strOf_size]; have := hLl.out _ (tz_mem hlt); omega)
        rw [hz] at c1
        have hz' := Lib.hid hz
        clear hR hB hz
        go_wp2_with (go_at_call 184; refine (clone_c z _ hzl.out).mono ?_; rintro e w3 ⟨rfl, hb3⟩; have O3 := Lib.hid (hR'.out.on hb3 (Nat.le_refl _)); have B3 := Lib.hid (hB'.out.trans (hb3.mono hB'.out.size)); obtain ⟨c1, c2⟩ := O3.out.cellAt hlt; rw [hz'.out] at c1; clear hb3)
        have hset := O3.out.set k (tz L k)
        rw [set_same hlt, hz'.out] at hset
        have hend : LsRel w.heap.size g L.length cap L w (.int .i64 ((k : Int) + 1)) (w3.setCell ⟨g, k, none⟩ (.string z)) := ⟨k + 1, by omega, rfl, hset, B3.out.setCell (p := ⟨g, k, none⟩) (O3.out.block g rfl).1 _⟩
        exact ⟨hend, by simp [intOf]; omega⟩
      · have t0 : decide ((k : Int) < (L.length : Int)) = false := decide_eq_false (by omega)
        have hR' := Lib.hid hR
        have hB' := Lib.hid hB
        clear hR hB
        go_wp2_with fail
        go_ret
        exact ⟨_, rfl, hR'.out, hB'.out⟩
theorem tell_names {a : Ans} {l : List (List Nat)} {w1 w' : World} {d : Value} (h : TreeAt w B A s) (hb : Below w.heap.size w w') (ho : OwnT w1 w.heap.size d l) (hd : ∀ g, d.ownBlock = some g → w'.heap[g]? = w1.heap[g]?) (hsz : w1.heap.size ≤ w'.heap.size) (ha : a = { ans0 with names := l }) :
    TellPost B A s a w (.returned (.tuple #[ansV 0 0 0 0 (.slice none 0 0) d, .int .i64 0])) w' := by
  subst ha
  refine ⟨_, A, rfl, h.below hb, TStep.of_below A hb, fun _ => ⟨_, _, rfl, OwnB.nil _ _, ?_, (fun g e => by cases e), fun g e => h.none_past (ho.block g e).1⟩, FormA.own (OwnB.nil w1 w.heap.size) ho⟩
  rcases ho.2 with ⟨rfl, h0⟩ | ⟨g, cap, cur, rfl, h1, h2, h3⟩
  · exact ⟨ho.1, .inl ⟨rfl, h0⟩⟩
  · exact ⟨ho.1, .inr ⟨g, cap, cur, rfl, h1, (hd g rfl).trans h2, h3⟩⟩
set_option maxHeartbeats 2000000 in
theorem readDir_any (h : TreeAt w B A s) (ho : Ok b s) (hb : b ≤ 900000) (p : ByteArray) :
    Calls Tryz.prog 95 #[.pointer (some ⟨A.t, 0, none⟩), .string p] w (TellPost B A s (s.readDir (nb p)) w) := by
  have h' := Lib.hid h
  have hfi := fun w' (hw' : TreeAt w' B A s) => find_any hw' ho (by omega : b ≤ 1000000) p false
  unfold StepPost at hfi
  have hul : s.readDir (nb p) = if (s.find (nb p) false).1 ≠ 0 then ansC (s.find (nb p) false).1 else
    if (s.at (s.find (nb p) false).2).kind ≠ 2 then ansC 7 else { ans0 with names := (s.at (s.find (nb p) false).2).ents.map (·.1) } := rfl
  have hal := ho.find_alive (p := nb p) (itself := false)
  obtain ⟨⟨c1, i⟩, hq1⟩ : ∃ z, s.find (nb p) false = z := ⟨_, rfl⟩
  rw [hq1] at hfi hul hal
  have hfi' := Lib.hid hfi
  obtain ⟨w0, hw0⟩ : ∃ w0, w.alloc (.cells #[.int .i64 0, .int .i64 0, .int .i64 0, .int .i64 0, .slice none 0 0, .slice none 0 0] 38) = w0 := ⟨_, rfl⟩
  have hB0 := Lib.hid (show Below w.heap.size w w0 by rw [← hw0]; exact (Below.refl w.heap.size w).alloc (Nat.le_refl _) _)
  have V0 := Lib.hid (show Vw w0 38 w.heap.size [.int .i64 0, .int .i64 0, .int .i64 0, .int .i64 0, .slice none 0 0, .slice none 0 0] by rw [← hw0]; exact Vw.alloc _ _ _)
  have h0 := Lib.hid (h.below hB0.out)
  have hbb := Lib.hid hb
  clear h hfi hq1
  by_cases hc1 : c1 = 0
  · subst hc1
    obtain ⟨x, hx⟩ := hal rfl
    rw [if_neg (fun h => h rfl), Tr.at_of hx] at hul
    have hx' := Lib.hid hx
    by_cases hk : x.kind = 2
    · rw [if_neg (fun c => c hk)] at hul
      have hul' := Lib.hid hul
      have t5 : (((x.kind : Nat) : Int) != 2) = false := by rw [hk]; rfl
      have hk' := Lib.hid hk
      have hok := Lib.hid (ho.each i x hx)
      clear hul hx hal hk
      go_enter Tryz.func95, Tryz.ntmps95
      have tk : True := trivial
      go_wp2_with (first
        | (go_at_call 59; refine (hfi'.out _ h0.out).mono ?_; rintro e w1 ⟨rfl, hb1⟩; have hB1 := Lib.hid (hB0.out.trans (hb1.mono hB0.out.size)); have V1 := Lib.hid (V0.out.on' hb1); have hN1 := Lib.hid ((h0.out.below hb1).node i x hx'.out); have ck := hN1.out.kind; clear hb1)
        | (go_at_call 148; refine (names_any _ hN1.out hk'.out hok.out hbb.out).mono ?_; rintro e w2 ⟨v2, rfl, ho2, hb2⟩; have O2 := Lib.hid ho2; have hB2 := Lib.hid (hB1.out.trans (hb2.mono hB1.out.size)); have V2 := Lib.hid (V1.out.on' hb2); have hO2 := Lib.hid (ho2.lower hB1.out.size); have hg2 := Lib.hid (show ∀ g, v2.ownBlock = some g → g ≠ w.heap.size from fun g e e2 => by (have h1 := (ho2.block g e).1; have h2 := V1.out.lt; omega)); obtain ⟨a2, cap2, rfl, _⟩ := ho2.slice; clear hb2 ho2)
        | (have _t := tk; refine wpList_store_ans rfl (.tmp 4) (.tmp 32) rfl V2.out rfl rfl 0 0 0 0 none a2 0 0 _ cap2 rfl ?_; intro w3 V3 O3; clear tk))
      refine bodyPost_ret (cell_ret2 rfl rfl V3.out Tryz.underlying38 (by rw [Tryz.sizeA]; rfl)) rfl ?_
      have hO3 := hO2.out
      have hg3 := hg2.out
      rw [List.length_map] at hO3 hg3
      exact tell_names h'.out (below_at hB2.out O3.out (Nat.le_refl _)) hO3 (fun g e => O3.out.block g (hg3 g e)) (Nat.le_of_eq O3.out.size.symm) hul'.out
    · rw [if_pos hk] at hul
      have hul' := Lib.hid hul
      have t5 : (((x.kind : Nat) : Int) != 2) = true := by rw [bne_iff_ne]; omega
      have tk : True := trivial
      clear hul hx hal hk
      go_enter Tryz.func95, Tryz.ntmps95
      go_wp2_with (first
        | (go_at_call 59; refine (hfi'.out _ h0.out).mono ?_; rintro e w1 ⟨rfl, hb1⟩; have hB1 := Lib.hid (hB0.out.trans (hb1.mono hB0.out.size)); have V1 := Lib.hid (V0.out.on' hb1); have ck := ((h0.out.below hb1).node i x hx'.out).kind; clear hb1)
        | (go_at_call 79; refine (only_any _ _).mono ?_; rintro e w2 ⟨rfl, hb2⟩; have hB2 := Lib.hid (hB1.out.trans (hb2.mono hB1.out.size)); have V2 := Lib.hid (V1.out.on' hb2); clear hb2)
        | (have _t := tk; refine wpList_store_ans rfl (.tmp 4) (.tmp 28) rfl V2.out rfl rfl 0 0 0 0 none none 0 0 0 0 rfl ?_; intro w3 V3 O3; clear tk))
      refine bodyPost_ret (cell_ret2 rfl rfl V3.out Tryz.underlying38 (by rw [Tryz.sizeA]; rfl)) rfl ?_
      exact tell_code h'.out (below_at hB2.out O3.out (Nat.le_refl _)) (by decide) hul'.out
  · rw [if_pos hc1] at hul
    have hul' := Lib.hid hul
    have hc' := Lib.hid hc1
    have t0 : (c1 != 0) = true := by rw [bne_iff_ne]; exact hc1
    have tk : True := trivial
    clear hul hal hc1
    go_enter Tryz.func95, Tryz.ntmps95
    go_wp2_with (first
      | (go_at_call 59; refine (hfi'.out _ h0.out).mono ?_; rintro e w1 ⟨rfl, hb1⟩; have hB1 := Lib.hid (hB0.out.trans (hb1.mono hB0.out.size)); have V1 := Lib.hid (V0.out.on' hb1); clear hb1)
      | (go_at_call 79; refine (only_any _ _).mono ?_; rintro e w2 ⟨rfl, hb2⟩; have hB2 := Lib.hid (hB1.out.trans (hb2.mono hB1.out.size)); have V2 := Lib.hid (V1.out.on' hb2); clear hb2)
      | (have _t := tk; refine wpList_store_ans rfl (.tmp 4) (.tmp 19) rfl V2.out rfl rfl 0 0 0 0 none none 0 0 0 0 rfl ?_; intro w3 V3 O3; clear tk))
    refine bodyPost_ret (cell_ret2 rfl rfl V3.out Tryz.underlying38 (by rw [Tryz.sizeA]; rfl)) rfl ?_
    exact tell_code h'.out (below_at hB2.out O3.out (Nat.le_refl _)) hc'.out hul'.out
end
end Go.Proofs.YtgcodlicbdaddaaGreatDoor
end
