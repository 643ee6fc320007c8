/- Own work: CoI, LawDoor, TP1. -/
import Derived.Shelf.Strconv.Itoa3
import Derived.Ground.NamesProg
import Derived.Test.YtmolmbeeoecnfaaGreatDoorF24
import Derived.Test.YtmolmbeeoecnfaaGreatDoorF01
import Derived.LaidLaws
import Derived.LaidHandle
import Derived.Lib.LaidTab
import Derived.Stop.LaidErr
import Derived.ChangeVars
import Derived.Test.YtmolmbeeoecnfaaGreatDoorF02
/- Own work: strconv.Itoa laid at this program. -/
namespace Go.Proofs
open Go.Shelf
def Tryz.laysItoa_ren : Go.Shelf.Ren := ⟨fun | 171 => 46 | 243 => 71 | 246 => 94 | 283 => 103 | 284 => 104 | 285 => 105 | 286 => 106 | 129 => 109 | 317 => 108 | 318 => 110 | 319 => 111 | 320 => 112 | 337 => 113 | 338 => 114 | n => n, fun | 3 => 3 | 9 => 9 | 2 => 2 | 4 => 4 | 171 => 172 | 0 => 0 | 53 => 173 | 37 => 82 | 5 => 5 | 173 => 176 | 212 => 181 | 51 => 182 | 20 => 20 | 213 => 183 | 46 => 184 | 232 => 187 | 233 => 188 | n => n, fun | 17 => 0 | 18 => 1 | 19 => 2 | n => n⟩
theorem Tryz.laysItoa : Go.Proofs.LaysM.n171 Tryz.prog Tryz.laysItoa_ren := {
 mixed := by kernel_rfl
 f129 := Tryz.func109.trans (congrArg some (by kernel_rfl))
 f171 := Tryz.func46.trans (congrArg some (by kernel_rfl))
 f243 := Tryz.func71.trans (congrArg some (by kernel_rfl))
 f246 := Tryz.func94.trans (congrArg some (by kernel_rfl))
 f283 := Tryz.func103.trans (congrArg some (by kernel_rfl))
 f284 := Tryz.func104.trans (congrArg some (by kernel_rfl))
 f285 := Tryz.func105.trans (congrArg some (by kernel_rfl))
 f286 := Tryz.func106.trans (congrArg some (by kernel_rfl))
 f317 := Tryz.func108.trans (congrArg some (by kernel_rfl))
 f318 := Tryz.func110.trans (congrArg some (by kernel_rfl))
 f319 := Tryz.func111.trans (congrArg some (by kernel_rfl))
 f320 := Tryz.func112.trans (congrArg some (by kernel_rfl))
 f337 := Tryz.func113.trans (congrArg some (by kernel_rfl))
 f338 := Tryz.func114.trans (congrArg some (by kernel_rfl))
 t0 := Tryz.underlying0
 a0 := Tryz.isAgg0
 z0 := Tryz.sizeOf0
 v0 := Tryz.zeroValue0
 t2 := Tryz.underlying2
 a2 := Tryz.isAgg2
 z2 := Tryz.sizeOf2
 v2 := Tryz.zeroValue2
 t3 := Tryz.underlying3
 a3 := Tryz.isAgg3
 z3 := Tryz.sizeOf3
 v3 := Tryz.zeroValue3
 t4 := Tryz.underlying4
 a4 := Tryz.isAgg4
 z4 := Tryz.sizeOf4
 v4 := Tryz.zeroValue4
 t5 := Tryz.underlying5
 a5 := Tryz.isAgg5
 z5 := Tryz.sizeOf5
 v5 := Tryz.zeroValue5
 t9 := Tryz.underlying9
 a9 := Tryz.isAgg9
 z9 := Tryz.sizeOf9
 v9 := Tryz.zeroValue9
 t20 := Tryz.underlying20
 a20 := Tryz.isAgg20
 z20 := Tryz.sizeOf20
 v20 := Tryz.zeroValue20
 t37 := Tryz.underlying82
 a37 := Tryz.isAgg82
 z37 := Tryz.sizeOf82
 v37 := Tryz.zeroValue82
 t46 := Tryz.underlying184
 a46 := Tryz.isAgg184
 z46 := Tryz.sizeOf184
 v46 := Tryz.zeroValue184
 t51 := Tryz.underlying182
 a51 := Tryz.isAgg182
 z51 := Tryz.sizeOf182
 v51 := Tryz.zeroValue182
 t53 := Tryz.underlying173
 a53 := Tryz.isAgg173
 z53 := Tryz.sizeOf173
 v53 := Tryz.zeroValue173
 t171 := Tryz.underlying172
 a171 := Tryz.isAgg172
 z171 := Tryz.sizeOf172
 v171 := Tryz.zeroValue172
 t173 := Tryz.underlying176
 a173 := Tryz.isAgg176
 z173 := Tryz.sizeOf176
 v173 := Tryz.zeroValue176
 t212 := Tryz.underlying181
 a212 := Tryz.isAgg181
 z212 := Tryz.sizeOf181
 v212 := Tryz.zeroValue181
 t213 := Tryz.underlying183
 a213 := Tryz.isAgg183
 z213 := Tryz.sizeOf183
 t232 := Tryz.underlying187
 a232 := Tryz.isAgg187
 z232 := Tryz.sizeOf187
 v232 := Tryz.zeroValue187
 t233 := Tryz.underlying188
 a233 := Tryz.isAgg188
 z233 := Tryz.sizeOf188
 v233 := Tryz.zeroValue188
 g17 := by kernel_rfl
 g18 := by kernel_rfl
 g19 := by kernel_rfl
 i0 := by kernel_rfl
 i2 := by kernel_rfl
 i3 := by kernel_rfl
 i4 := by kernel_rfl
 i5 := by kernel_rfl
 i9 := by kernel_rfl
 i20 := by kernel_rfl
 i37 := by kernel_rfl
 i46 := by kernel_rfl
 i51 := by kernel_rfl
 i53 := by kernel_rfl
 i171 := by kernel_rfl
 i173 := by kernel_rfl
 i212 := by kernel_rfl
 i232 := by kernel_rfl
 i233 := by kernel_rfl
 m17 := by kernel_rfl
 m18 := by kernel_rfl
 m19 := by kernel_rfl }
end Go.Proofs
namespace Go.Proofs.YtmolmbeeoecnfaaGreatDoor
open Go.RowKit Go.BigFrame

theorem itoa_laid (n : Nat) (h1 : n ≤ 100000) (w : World) (htab : Lib.TabIs Tryz.prog w "internal/strconv.uint64pow10" .u64 Lib.pow10Tab) :
  Calls Tryz.prog 46 #[.int .i64 n] w fun e w' => e = .returned (.string ⟨(Lib.decDigits n).toArray⟩) ∧ Fr (fun _ => False) w w' := by
 refine (Any.strconv_Itoa Tryz.laysItoa n (by omega) (by omega) w htab).mono ?_
 rintro e w' ⟨rfl, k, os, rfl⟩
 refine ⟨?_, ?_⟩
 ·have : Lib.itoa (n : Int) = Lib.decDigits n := by unfold Lib.itoa; rw [if_neg (by omega)]; rfl
  rw [this]
 ·refine ⟨rfl, rfl, rfl, ?_, fun i hi _ => ?_⟩
  ·show w.heap.size ≤ (w.heap ++ os).size
   simp
  ·show (w.heap ++ os)[i]? = w.heap[i]?
   rw [Array.getElem?_append_left hi]
def TabW (w : World) : Prop := Lib.TabIs Tryz.prog w "internal/strconv.uint64pow10" .u64 Lib.pow10Tab
theorem itO_of (w : World) (h : TabW w) : ∃ H, ItO H TabW ∧ H ≤ w.heap.size := by
 obtain ⟨g, hg⟩ : ∃ g, Tryz.prog.globalNamed "internal/strconv.uint64pow10" = some g := Option.isSome_iff_exists.1 (by kernel_rfl)
 have key : ∀ w : World, TabW w → g < w.heap.size := by
  intro w h
  unfold TabW Lib.TabIs World.var? at h
  rw [hg] at h
  simp only [Option.bind_some] at h
  by_cases hlt : g < w.heap.size
  ·exact hlt
  ·rw [Array.getElem?_eq_none (by omega)] at h; cases h
 refine ⟨g + 1, ⟨fun w w' S hw f hS => ?_, fun w n hw hn => itoa_laid n hn w hw⟩, key w h⟩
 have h1 := f.block g (key w hw) (fun s => by have := hS g s; omega)
 unfold TabW Lib.TabIs World.var? at hw ⊢
 rw [hg] at hw ⊢
 simp only [Option.bind_some] at hw ⊢
 rw [h1]
 exact hw
end Go.Proofs.YtmolmbeeoecnfaaGreatDoor

/- Own work: what each law's row over the tables needs. -/
namespace Go.Proofs.YtmolmbeeoecnfaaGreatDoor
open Go.RowKit Go.BigFrame
set_option linter.unusedVariables false
set_option linter.unusedSimpArgs false

def dCells : DataW Unit → Array Value
 | .agg l => (l.map fun | .lit (.int k z) => Value.int k z | _ => .int .u8 0).toArray
 | _ => #[]
def putC (h : Array Obj) (g : Nat) (cs : Array Value) : Array Obj := h.modify g fun
 | .cells _ t frozen => .cells cs t frozen
 | o => o
abbrev laidL : List (String × DataW Unit) := [("math/bits.deBruijn32tab", Rows.laid_math_bits_deBruijn32tab), ("math/bits.deBruijn64tab", Rows.laid_math_bits_deBruijn64tab), ("internal/strconv.uint64pow10", Rows.laid_internal_strconv_uint64pow10)]
noncomputable def laidWorld (os : Os) : World :=
 let w0 := World.holding Tryz.prog os ⟨#[], #[], []⟩
 {w0 with heap := putC (putC (putC w0.heap 0 (dCells Rows.laid_internal_strconv_uint64pow10)) 1 (dCells Rows.laid_math_bits_deBruijn32tab)) 2 (dCells Rows.laid_math_bits_deBruijn64tab) }
theorem laidWorld_met (os : Os) (args : Array Value) : laidMetH Tryz.prog laidL ((laidWorld os).forCall (fun _ _ => 0) ⟨#[], args, []⟩).memory :=
 laidMetH_of_parts (show laidMet Tryz.prog laidL _ from laidMet_of_run' 8 (by kernel_rfl) (by kernel_rfl)) (by kernel_rfl)
theorem tabW_of {W : World} (h : laidMetH Tryz.prog laidL W) : TabW W := by
 have h1 : laidMet Tryz.prog laidL W := h
 have h2 := laidMet.tail (laidMet.tail h1)
 exact Lib.tabIs_of_head (g := 0) (t := 181) (e := 173) (n := 20) (by kernel_rfl) (by kernel_rfl) (by kernel_rfl) (by kernel_rfl) (by kernel_rfl) (by kernel_rfl) h2
theorem i64_bd {n : Int} (h : (Lit.int .i64 n).wf = true) : -9223372036854775808 ≤ n ∧ n ≤ 9223372036854775807 := by
 simp only [Lit.wf, Bool.and_eq_true, decide_eq_true_eq] at h
 exact h
end Go.Proofs.YtmolmbeeoecnfaaGreatDoor

/- Own work: the plain mathematics of tables: numbers, cells, rows, events. -/
namespace Go.Proofs.YtmolmbeeoecnfaaGreatDoor
set_option linter.unusedVariables false
set_option linter.unusedSimpArgs false


def nend (s : ByteArray) (i : Nat) : Nat := if byte s i = 48 then i + 1 else dend s i
def dgt (c : UInt8) : Nat := c.toNat - 48
def nvF (s : ByteArray) : Nat → Nat → Nat → Nat
 | 0, _, n => n
 | f + 1, i, n => nvF s f (i + 1) (if n < 1000000 then n * 10 + dgt (byte s i) else n)
def nval (s : ByteArray) (i : Nat) : Nat := if byte s i = 48 then 0 else min (nvF s (dend s i - (i + 1)) (i + 1) (dgt (byte s i))) 1000000
theorem dgt_le {c : UInt8} (h : isD c = true) : dgt c ≤ 9 ∧ c.toNat = 48 + dgt c := by
 have := (isD_iff c).1 h; unfold dgt; omega
theorem dgt_pos {c : UInt8} (h : isD c = true) (h0 : c ≠ 48) : 1 ≤ dgt c := by
 have h1 := (isD_iff c).1 h
 have : c.toNat ≠ 48 := fun e => h0 (UInt8.toNat_inj.1 e)
 unfold dgt; omega
theorem dend_in (s : ByteArray) (i : Nat) : ∀ j, i ≤ j → j < dend s i → isD (byte s j) = true := by
 unfold dend
 generalize s.size - i = n
 induction n generalizing i with
 | zero => intro j h1 h2; simp only [dendF] at h2; omega
 | succ n ih =>
  intro j h1 h2
  simp only [dendF] at h2
  split at h2
  ·by_cases e : i = j
   ·subst e; assumption
   ·exact ih (i + 1) j (by omega) h2
  ·omega
theorem nval_le (s : ByteArray) (i : Nat) : nval s i ≤ 1000000 := by unfold nval; split <;> omega

theorem nend_bd (s : ByteArray) (i : Nat) (h : isD (byte s i) = true) : i < nend s i ∧ nend s i ≤ s.size := by
 have h1 := dend_go s i h
 have h2 := dend_ge s (i + 1)
 have h3 := dend_le s i (by omega)
 unfold nend; split <;> omega

structure Cl where
 dst : Nat
 acts : ByteArray

def cellP (s : ByteArray) (i : Nat) : Bool × Nat × Cl :=
 if isD (byte s i) = false then (false, i, ⟨0, ⟨#[]⟩⟩)
 else if byte s (nend s i) ≠ 58 then (false, nend s i, ⟨0, ⟨#[]⟩⟩)
 else (true, dend s (nend s i + 1), ⟨nval s i, cut s (nend s i + 1) (dend s (nend s i + 1))⟩)

theorem cellP_bd (s : ByteArray) (i : Nat) (h : i ≤ s.size) : i ≤ (cellP s i).2.1 ∧ (cellP s i).2.1 ≤ s.size ∧ ((cellP s i).1 = true → i < (cellP s i).2.1) := by
 unfold cellP
 by_cases h1 : isD (byte s i) = false
 ·rw [if_pos h1]; exact ⟨Nat.le_refl _, h, fun h => by cases h⟩
 ·rw [if_neg h1]
  have hb := nend_bd s i (by simpa using h1)
  by_cases h2 : byte s (nend s i) ≠ 58
  ·rw [if_pos h2]; exact ⟨by show i ≤ nend s i; omega, hb.2, fun h => by cases h⟩
  ·rw [if_neg h2]
   have h3 := sg_in s 58 (nend s i) (by decide) (by simpa using h2)
   have h4 := dend_ge s (nend s i + 1)
   have h5 := dend_le s (nend s i + 1) (by omega)
   exact ⟨by show i ≤ dend s (nend s i + 1); omega, h5, fun _ => by show i < dend s (nend s i + 1); omega⟩

def clJ (a : List Cl) (i : Nat) : Nat := if a = [] then i else i + 1
def clF (s : ByteArray) : Nat → Nat → List Cl → Bool × Nat × List Cl
 | 0, i, a => (true, i, a)
 | n + 1, i, a =>
  if a ≠ [] ∧ byte s i ≠ 44 then (false, i, a)
  else if (cellP s (clJ a i)).1 = false then (false, (cellP s (clJ a i)).2.1, a)
  else clF s n (cellP s (clJ a i)).2.1 (a ++ [(cellP s (clJ a i)).2.2])

theorem clF_bd (s : ByteArray) : ∀ (n i : Nat) (a : List Cl), i ≤ s.size → i ≤ (clF s n i a).2.1 ∧ (clF s n i a).2.1 ≤ s.size
 | 0, i, a, h => ⟨Nat.le_refl _, h⟩
 | n + 1, i, a, h => by
  simp only [clF]
  split
  ·exact ⟨Nat.le_refl _, h⟩
  ·rename_i h1
   have hj : i ≤ clJ a i ∧ clJ a i ≤ s.size := by
    unfold clJ
    by_cases e : a = []
    ·rw [if_pos e]; omega
    ·rw [if_neg e]
     have h2 : byte s i = 44 := Classical.byContradiction fun h => h1 ⟨e, h⟩
     have := sg_in s 44 i (by decide) h2
     omega
   have hc := cellP_bd s _ hj.2
   split
   ·simp only; omega
   ·have := clF_bd s n (cellP s (clJ a i)).2.1 (a ++ [(cellP s (clJ a i)).2.2]) hc.2.1
    omega
theorem clF_len (s : ByteArray) : ∀ (n i : Nat) (a : List Cl), i ≤ s.size → a.length ≤ i → (clF s n i a).2.2.length ≤ (clF s n i a).2.1 ∧ ((clF s n i a).1 = true → (clF s n i a).2.2.length = a.length + n)
 | 0, i, a, _, h => ⟨h, fun _ => rfl⟩
 | n + 1, i, a, hi, h => by
  simp only [clF]
  split
  ·exact ⟨h, fun h => by cases h⟩
  ·rename_i h1
   have hj : i ≤ clJ a i ∧ clJ a i ≤ s.size := by
    unfold clJ
    by_cases e : a = []
    ·rw [if_pos e]; omega
    ·rw [if_neg e]
     have h2 : byte s i = 44 := Classical.byContradiction fun h => h1 ⟨e, h⟩
     have := sg_in s 44 i (by decide) h2
     omega
   have hc := cellP_bd s _ hj.2
   split
   ·exact ⟨by simp only; omega, fun h => by cases h⟩
   ·rename_i hok
    have hlt := hc.2.2 (by simpa using hok)
    have := clF_len s n (cellP s (clJ a i)).2.1 (a ++ [(cellP s (clJ a i)).2.2]) hc.2.1 (by simp; omega)
    simp only [List.length_append, List.length_cons, List.length_nil] at this
    exact ⟨this.1, fun h => by have := this.2 h; omega⟩

structure Rw where
 at_ : Nat
 same : Int
 cells : List Cl
 text : ByteArray

def rowP (s : ByteArray) (wd i : Nat) : Bool × Nat × Rw :=
 let z : Rw := ⟨0, 0, [], ⟨#[]⟩⟩
 if byte s i = 61 then
  if isD (byte s (i + 1)) = false then (false, i + 1, z)
  else if byte s (nend s (i + 1)) ≠ 59 then (false, nend s (i + 1), z)
  else (true, nend s (i + 1) + 1, ⟨i, nval s (i + 1), [], cut s i (nend s (i + 1))⟩)
 else if (clF s wd i []).1 = false then (false, (clF s wd i []).2.1, z)
 else if byte s (clF s wd i []).2.1 ≠ 59 then (false, (clF s wd i []).2.1, z)
 else (true, (clF s wd i []).2.1 + 1, ⟨i, -1, (clF s wd i []).2.2, cut s i (clF s wd i []).2.1⟩)

theorem rowP_bd (s : ByteArray) (wd i : Nat) (h : i ≤ s.size) : i ≤ (rowP s wd i).2.1 ∧ (rowP s wd i).2.1 ≤ s.size ∧ ((rowP s wd i).1 = true → i < (rowP s wd i).2.1) := by
 unfold rowP
 simp only
 split
 ·have h0 := sg_in s 61 i (by decide) ‹_›
  split
  ·exact ⟨by simp only; omega, by simp only; omega, fun h => by cases h⟩
  ·have hb := nend_bd s (i + 1) (by simpa using ‹¬ isD (byte s (i + 1)) = false›)
   split
   ·exact ⟨by simp only; omega, by simp only; omega, fun h => by cases h⟩
   ·have h3 := sg_in s 59 (nend s (i + 1)) (by decide) (by simpa using ‹¬ byte s (nend s (i + 1)) ≠ 59›)
    exact ⟨by simp only; omega, by simp only; omega, fun _ => by simp only; omega⟩
 ·have hb := clF_bd s wd i [] h
  split
  ·exact ⟨by simp only; omega, by simp only; omega, fun h => by cases h⟩
  ·split
   ·exact ⟨by simp only; omega, by simp only; omega, fun h => by cases h⟩
   ·have h3 := sg_in s 59 (clF s wd i []).2.1 (by decide) (by simpa using ‹¬ byte s (clF s wd i []).2.1 ≠ 59›)
    exact ⟨by simp only; omega, by simp only; omega, fun _ => by simp only; omega⟩

def rwF (s : ByteArray) (wd : Nat) : Nat → Nat → List Rw → Bool × Nat × List Rw
 | 0, i, a => (false, i, a)
 | f + 1, i, a =>
  if (rowP s wd i).1 = false then (false, (rowP s wd i).2.1, a)
  else if (rowP s wd i).2.1 < s.size then rwF s wd f (rowP s wd i).2.1 (a ++ [(rowP s wd i).2.2])
  else (true, (rowP s wd i).2.1, a ++ [(rowP s wd i).2.2])
def rwL (s : ByteArray) (wd i : Nat) (a : List Rw) : Bool × Nat × List Rw := rwF s wd (s.size + 1 - i) i a
theorem rwL_bad (s : ByteArray) (wd i : Nat) (a : List Rw) (hi : i ≤ s.size) (h : (rowP s wd i).1 = false) : rwL s wd i a = (false, (rowP s wd i).2.1, a) := by
 unfold rwL; rw [show s.size + 1 - i = (s.size - i) + 1 by omega]; simp only [rwF]; rw [if_pos h]
theorem rwF_fuel (s : ByteArray) (wd : Nat) : ∀ (f g i : Nat) (a : List Rw), i < s.size → s.size - i ≤ f → s.size - i ≤ g → rwF s wd f i a = rwF s wd g i a
 | 0, _, i, a, h, h1, _ => by omega
 | _, 0, i, a, h, _, h2 => by omega
 | f + 1, g + 1, i, a, h, h1, h2 => by
  simp only [rwF]
  split
  ·rfl
  ·have hb := rowP_bd s wd i (by omega)
   have := hb.2.2 (by simpa using ‹¬ (rowP s wd i).1 = false›)
   split
   ·exact rwF_fuel s wd f g _ _ ‹_› (by omega) (by omega)
   ·rfl
theorem rwL_go (s : ByteArray) (wd i : Nat) (a : List Rw) (hi : i ≤ s.size) (h : (rowP s wd i).1 = true) (h2 : (rowP s wd i).2.1 < s.size) : rwL s wd i a = rwL s wd (rowP s wd i).2.1 (a ++ [(rowP s wd i).2.2]) := by
 have hb := rowP_bd s wd i hi
 have := hb.2.2 h
 unfold rwL
 rw [show s.size + 1 - i = (s.size - i) + 1 by omega]
 conv => lhs; simp only [rwF]
 rw [if_neg (by simp [h]), if_pos h2]
 exact rwF_fuel s wd _ _ _ _ h2 (by omega) (by omega)
theorem rwL_end (s : ByteArray) (wd i : Nat) (a : List Rw) (hi : i ≤ s.size) (h : (rowP s wd i).1 = true) (h2 : ¬ (rowP s wd i).2.1 < s.size) : rwL s wd i a = (true, (rowP s wd i).2.1, a ++ [(rowP s wd i).2.2]) := by
 unfold rwL; rw [show s.size + 1 - i = (s.size - i) + 1 by omega]; simp only [rwF]; rw [if_neg (by simp [h]), if_neg h2]

def evF (s : ByteArray) : Nat → UInt8 → Nat → Nat
 | 0, _, i => i
 | f + 1, l, i => if isE (byte s i) = true ∧ l < byte s i then evF s f (byte s i) (i + 1) else i
def evE (s : ByteArray) (l : UInt8) (i : Nat) : Nat := evF s (s.size - i) l i
theorem evE_go (s : ByteArray) (l : UInt8) (i : Nat) (h : isE (byte s i) = true ∧ l < byte s i) : i < s.size ∧ evE s l i = evE s (byte s i) (i + 1) := by
 have hi := isE_b s i h.1
 refine ⟨hi, ?_⟩
 unfold evE
 rw [show s.size - i = (s.size - (i + 1)) + 1 by omega]
 simp only [evF]
 rw [if_pos h]
theorem evE_stop (s : ByteArray) (l : UInt8) (i : Nat) (h : ¬ (isE (byte s i) = true ∧ l < byte s i)) : evE s l i = i := by
 unfold evE
 cases hn : s.size - i with
 | zero => rfl
 | succ n => simp only [evF]; rw [if_neg h]
theorem evF_bd (s : ByteArray) : ∀ (f : Nat) (l : UInt8) (i : Nat), i ≤ s.size → i ≤ evF s f l i ∧ evF s f l i ≤ s.size
 | 0, l, i, h => ⟨Nat.le_refl _, h⟩
 | f + 1, l, i, h => by
  simp only [evF]
  split
  ·have := isE_b s i (‹_ ∧ _›).1
   have := evF_bd s f (byte s i) (i + 1) (by omega)
   omega
  ·omega
theorem evE_bd (s : ByteArray) (l : UInt8) (i : Nat) (h : i ≤ s.size) : i ≤ evE s l i ∧ evE s l i ≤ s.size := evF_bd s _ l i h

structure Tb where
 events : ByteArray
 begin_ : ByteArray
 rows : List Rw
def tev (s : ByteArray) : Nat := evE s 0 0
def tbg (s : ByteArray) : Nat := dend s (tev s + 1)
def formP (s : ByteArray) : Bool × Nat × Tb :=
 let z : Tb := ⟨⟨#[]⟩, ⟨#[]⟩, []⟩
 if byte s (tev s) ≠ 59 then (false, tev s, z)
 else if byte s (tbg s) ≠ 59 then (false, tbg s, z)
 else ((rwL s (tev s) (tbg s + 1) []).1, (rwL s (tev s) (tbg s + 1) []).2.1, ⟨cut s 0 (tev s), cut s (tev s + 1) (tbg s), (rwL s (tev s) (tbg s + 1) []).2.2⟩)

theorem rwF_len (s : ByteArray) (wd : Nat) : ∀ (f i : Nat) (a : List Rw), i ≤ s.size → a.length ≤ i → (rwF s wd f i a).2.2.length ≤ s.size
 | 0, i, a, hi, h => by simp only [rwF]; omega
 | f + 1, i, a, hi, h => by
  have hb := rowP_bd s wd i hi
  simp only [rwF]
  split
  ·simp only; omega
  ·have := hb.2.2 (by simpa using ‹¬ (rowP s wd i).1 = false›)
   split
   ·exact rwF_len s wd f _ _ (by omega) (by simp; omega)
   ·simp; omega

theorem rowP_wd (s : ByteArray) (wd i : Nat) (hi : i ≤ s.size) (h : (rowP s wd i).1 = true) : (0 ≤ (rowP s wd i).2.2.same ∧ (rowP s wd i).2.2.cells = []) ∨ ((rowP s wd i).2.2.same = -1 ∧ (rowP s wd i).2.2.cells.length = wd) := by
 revert h
 unfold rowP
 simp only
 split
 ·split
  ·intro h; cases h
  ·split
   ·intro h; cases h
   ·intro _; left; exact ⟨by simp only; omega, rfl⟩
 ·split
  ·intro h; cases h
  ·split
   ·intro h; cases h
   ·intro _; right
    refine ⟨rfl, ?_⟩
    have := (clF_len s wd i [] hi (Nat.zero_le _)).2 (by simpa using ‹¬ (clF s wd i []).1 = false›)
    simpa using this
theorem rwF_wd (s : ByteArray) (wd : Nat) : ∀ (f i : Nat) (a : List Rw), i ≤ s.size → (∀ r ∈ a, (0 ≤ r.same ∧ r.cells = []) ∨ (r.same = -1 ∧ r.cells.length = wd)) → ∀ r ∈ (rwF s wd f i a).2.2, (0 ≤ r.same ∧ r.cells = []) ∨ (r.same = -1 ∧ r.cells.length = wd)
 | 0, i, a, hi, h => h
 | f + 1, i, a, hi, h => by
  have hb := rowP_bd s wd i hi
  simp only [rwF]
  split
  ·exact h
  ·have hw := rowP_wd s wd i hi (by simpa using ‹¬ (rowP s wd i).1 = false›)
   have h' : ∀ r ∈ a ++ [(rowP s wd i).2.2], (0 ≤ r.same ∧ r.cells = []) ∨ (r.same = -1 ∧ r.cells.length = wd) := by
    intro r hr
    rcases List.mem_append.1 hr with hr | hr
    ·exact h r hr
    ·simp only [List.mem_cons, List.not_mem_nil, or_false] at hr; subst hr; exact hw
   split
   ·exact rwF_wd s wd f _ _ (by omega) h'
   ·exact h'
end Go.Proofs.YtmolmbeeoecnfaaGreatDoor
