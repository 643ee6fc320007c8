/- Own work: CoI, LawDoor, CmD, EvU. -/
import Derived.Shelf.Strconv.Itoa3
import Derived.Ground.NamesProg
import Derived.Test.YtmolmbeeoecnfaaGreatDoorC28
import Derived.Test.YtmolmbeeoecnfaaGreatDoorC01
import Derived.LaidLaws
import Derived.LaidHandle
import Derived.Lib.LaidTab
import Derived.Stop.LaidErr
import Derived.ChangeVars
import Derived.Test.YtmolmbeeoecnfaaGreatDoorC02
import Derived.Test.YtmolmbeeoecnfaaGreatDoorProg
import Derived.Test.YtmolmbeeoecnfaaGreatDoorC27
/- Own work: strconv.Itoa laid at this program. -/
namespace Go.Proofs
open Go.Shelf
def Tryz.laysItoa_ren : Go.Shelf.Ren := ⟨fun | 171 => 46 | 243 => 71 | 246 => 94 | 283 => 103 | 284 => 104 | 285 => 105 | 286 => 106 | 129 => 109 | 317 => 108 | 318 => 110 | 319 => 111 | 320 => 112 | 337 => 113 | 338 => 114 | n => n, fun | 3 => 3 | 9 => 9 | 2 => 2 | 4 => 4 | 171 => 172 | 0 => 0 | 53 => 173 | 37 => 82 | 5 => 5 | 173 => 176 | 212 => 181 | 51 => 182 | 20 => 20 | 213 => 183 | 46 => 184 | 232 => 187 | 233 => 188 | n => n, fun | 17 => 0 | 18 => 1 | 19 => 2 | n => n⟩
theorem Tryz.laysItoa : Go.Proofs.LaysM.n171 Tryz.prog Tryz.laysItoa_ren := {
 mixed := by kernel_rfl
 f129 := Tryz.func109.trans (congrArg some (by kernel_rfl))
 f171 := Tryz.func46.trans (congrArg some (by kernel_rfl))
 f243 := Tryz.func71.trans (congrArg some (by kernel_rfl))
 f246 := Tryz.func94.trans (congrArg some (by kernel_rfl))
 f283 := Tryz.func103.trans (congrArg some (by kernel_rfl))
 f284 := Tryz.func104.trans (congrArg some (by kernel_rfl))
 f285 := Tryz.func105.trans (congrArg some (by kernel_rfl))
 f286 := Tryz.func106.trans (congrArg some (by kernel_rfl))
 f317 := Tryz.func108.trans (congrArg some (by kernel_rfl))
 f318 := Tryz.func110.trans (congrArg some (by kernel_rfl))
 f319 := Tryz.func111.trans (congrArg some (by kernel_rfl))
 f320 := Tryz.func112.trans (congrArg some (by kernel_rfl))
 f337 := Tryz.func113.trans (congrArg some (by kernel_rfl))
 f338 := Tryz.func114.trans (congrArg some (by kernel_rfl))
 t0 := Tryz.underlying0
 a0 := Tryz.isAgg0
 z0 := Tryz.sizeOf0
 v0 := Tryz.zeroValue0
 t2 := Tryz.underlying2
 a2 := Tryz.isAgg2
 z2 := Tryz.sizeOf2
 v2 := Tryz.zeroValue2
 t3 := Tryz.underlying3
 a3 := Tryz.isAgg3
 z3 := Tryz.sizeOf3
 v3 := Tryz.zeroValue3
 t4 := Tryz.underlying4
 a4 := Tryz.isAgg4
 z4 := Tryz.sizeOf4
 v4 := Tryz.zeroValue4
 t5 := Tryz.underlying5
 a5 := Tryz.isAgg5
 z5 := Tryz.sizeOf5
 v5 := Tryz.zeroValue5
 t9 := Tryz.underlying9
 a9 := Tryz.isAgg9
 z9 := Tryz.sizeOf9
 v9 := Tryz.zeroValue9
 t20 := Tryz.underlying20
 a20 := Tryz.isAgg20
 z20 := Tryz.sizeOf20
 v20 := Tryz.zeroValue20
 t37 := Tryz.underlying82
 a37 := Tryz.isAgg82
 z37 := Tryz.sizeOf82
 v37 := Tryz.zeroValue82
 t46 := Tryz.underlying184
 a46 := Tryz.isAgg184
 z46 := Tryz.sizeOf184
 v46 := Tryz.zeroValue184
 t51 := Tryz.underlying182
 a51 := Tryz.isAgg182
 z51 := Tryz.sizeOf182
 v51 := Tryz.zeroValue182
 t53 := Tryz.underlying173
 a53 := Tryz.isAgg173
 z53 := Tryz.sizeOf173
 v53 := Tryz.zeroValue173
 t171 := Tryz.underlying172
 a171 := Tryz.isAgg172
 z171 := Tryz.sizeOf172
 v171 := Tryz.zeroValue172
 t173 := Tryz.underlying176
 a173 := Tryz.isAgg176
 z173 := Tryz.sizeOf176
 v173 := Tryz.zeroValue176
 t212 := Tryz.underlying181
 a212 := Tryz.isAgg181
 z212 := Tryz.sizeOf181
 v212 := Tryz.zeroValue181
 t213 := Tryz.underlying183
 a213 := Tryz.isAgg183
 z213 := Tryz.sizeOf183
 t232 := Tryz.underlying187
 a232 := Tryz.isAgg187
 z232 := Tryz.sizeOf187
 v232 := Tryz.zeroValue187
 t233 := Tryz.underlying188
 a233 := Tryz.isAgg188
 z233 := Tryz.sizeOf188
 v233 := Tryz.zeroValue188
 g17 := by kernel_rfl
 g18 := by kernel_rfl
 g19 := by kernel_rfl
 i0 := by kernel_rfl
 i2 := by kernel_rfl
 i3 := by kernel_rfl
 i4 := by kernel_rfl
 i5 := by kernel_rfl
 i9 := by kernel_rfl
 i20 := by kernel_rfl
 i37 := by kernel_rfl
 i46 := by kernel_rfl
 i51 := by kernel_rfl
 i53 := by kernel_rfl
 i171 := by kernel_rfl
 i173 := by kernel_rfl
 i212 := by kernel_rfl
 i232 := by kernel_rfl
 i233 := by kernel_rfl
 m17 := by kernel_rfl
 m18 := by kernel_rfl
 m19 := by kernel_rfl }
end Go.Proofs
namespace Go.Proofs.YtmolmbeeoecnfaaGreatDoor
open Go.RowKit Go.BigFrame

theorem itoa_laid (n : Nat) (h1 : n ≤ 100000) (w : World) (htab : Lib.TabIs Tryz.prog w "internal/strconv.uint64pow10" .u64 Lib.pow10Tab) :
  Calls Tryz.prog 46 #[.int .i64 n] w fun e w' => e = .returned (.string ⟨(Lib.decDigits n).toArray⟩) ∧ Fr (fun _ => False) w w' := by
 refine (Any.strconv_Itoa Tryz.laysItoa n (by omega) (by omega) w htab).mono ?_
 rintro e w' ⟨rfl, k, os, rfl⟩
 refine ⟨?_, ?_⟩
 ·have : Lib.itoa (n : Int) = Lib.decDigits n := by unfold Lib.itoa; rw [if_neg (by omega)]; rfl
  rw [this]
 ·refine ⟨rfl, rfl, rfl, ?_, fun i hi _ => ?_⟩
  ·show w.heap.size ≤ (w.heap ++ os).size
   simp
  ·show (w.heap ++ os)[i]? = w.heap[i]?
   rw [Array.getElem?_append_left hi]
def TabW (w : World) : Prop := Lib.TabIs Tryz.prog w "internal/strconv.uint64pow10" .u64 Lib.pow10Tab
theorem itO_of (w : World) (h : TabW w) : ∃ H, ItO H TabW ∧ H ≤ w.heap.size := by
 obtain ⟨g, hg⟩ : ∃ g, Tryz.prog.globalNamed "internal/strconv.uint64pow10" = some g := Option.isSome_iff_exists.1 (by kernel_rfl)
 have key : ∀ w : World, TabW w → g < w.heap.size := by
  intro w h
  unfold TabW Lib.TabIs World.var? at h
  rw [hg] at h
  simp only [Option.bind_some] at h
  by_cases hlt : g < w.heap.size
  ·exact hlt
  ·rw [Array.getElem?_eq_none (by omega)] at h; cases h
 refine ⟨g + 1, ⟨fun w w' S hw f hS => ?_, fun w n hw hn => itoa_laid n hn w hw⟩, key w h⟩
 have h1 := f.block g (key w hw) (fun s => by have := hS g s; omega)
 unfold TabW Lib.TabIs World.var? at hw ⊢
 rw [hg] at hw ⊢
 simp only [Option.bind_some] at hw ⊢
 rw [h1]
 exact hw
end Go.Proofs.YtmolmbeeoecnfaaGreatDoor

/- Own work: what each law's row over the tables needs. -/
namespace Go.Proofs.YtmolmbeeoecnfaaGreatDoor
open Go.RowKit Go.BigFrame
set_option linter.unusedVariables false
set_option linter.unusedSimpArgs false

def dCells : DataW Unit → Array Value
 | .agg l => (l.map fun | .lit (.int k z) => Value.int k z | _ => .int .u8 0).toArray
 | _ => #[]
def putC (h : Array Obj) (g : Nat) (cs : Array Value) : Array Obj := h.modify g fun
 | .cells _ t frozen => .cells cs t frozen
 | o => o
abbrev laidL : List (String × DataW Unit) := [("math/bits.deBruijn32tab", Rows.laid_math_bits_deBruijn32tab), ("math/bits.deBruijn64tab", Rows.laid_math_bits_deBruijn64tab), ("internal/strconv.uint64pow10", Rows.laid_internal_strconv_uint64pow10)]
noncomputable def laidWorld (os : Os) : World :=
 let w0 := World.holding Tryz.prog os ⟨#[], #[], []⟩
 {w0 with heap := putC (putC (putC w0.heap 0 (dCells Rows.laid_internal_strconv_uint64pow10)) 1 (dCells Rows.laid_math_bits_deBruijn32tab)) 2 (dCells Rows.laid_math_bits_deBruijn64tab) }
theorem laidWorld_met (os : Os) (args : Array Value) : laidMetH Tryz.prog laidL ((laidWorld os).forCall (fun _ _ => 0) ⟨#[], args, []⟩).memory :=
 laidMetH_of_parts (show laidMet Tryz.prog laidL _ from laidMet_of_run' 8 (by kernel_rfl) (by kernel_rfl)) (by kernel_rfl)
theorem tabW_of {W : World} (h : laidMetH Tryz.prog laidL W) : TabW W := by
 have h1 : laidMet Tryz.prog laidL W := h
 have h2 := laidMet.tail (laidMet.tail h1)
 exact Lib.tabIs_of_head (g := 0) (t := 181) (e := 173) (n := 20) (by kernel_rfl) (by kernel_rfl) (by kernel_rfl) (by kernel_rfl) (by kernel_rfl) (by kernel_rfl) h2
theorem i64_bd {n : Int} (h : (Lit.int .i64 n).wf = true) : -9223372036854775808 ≤ n ∧ n ≤ 9223372036854775807 := by
 simp only [Lit.wf, Bool.and_eq_true, decide_eq_true_eq] at h
 exact h
end Go.Proofs.YtmolmbeeoecnfaaGreatDoor

/- Own work: walks of the document's compiler: Dec. -/
namespace Go.Proofs.YtmolmbeeoecnfaaGreatDoor
open Go.RowKit Go.BigFrame
set_option linter.unusedVariables false
set_option linter.unusedSimpArgs false

set_option maxRecDepth 100000 in
set_option maxHeartbeats 1000000 in
theorem ddec_any (n : Nat) : ∀ (w : World), n ≤ 1000000 → Calls Tryz.prog 21 #[.int .i64 n] w fun e w' => e = .returned (.string ⟨(Lib.decDigits n).toArray⟩) ∧ Fr (fun _ => False) w w' ∧ (Lib.decDigits n).length ≤ n + 1 := by
 induction n using Nat.strongRecOn with
 | _ n ih =>
  intro w hn
  obtain ⟨c, hc⟩ : ∃ c, UInt8.ofNat (48 + n % 10) = c := ⟨_, rfl⟩
  have hcn : 48 + (n : Int) % 10 = c.toNat := by
   rw [← hc, UInt8.toNat_ofNat', Nat.mod_eq_of_lt (by omega)]
   omega
  have hrem : (n : Int).tmod 10 = (n : Int) % 10 := Int.tmod_eq_emod_of_nonneg (by omega)
  have hquo : (n : Int).tdiv 10 = ((n / 10 : Nat) : Int) := by rw [Int.tdiv_eq_ediv_of_nonneg (by omega)]; omega
  have hwr : (48 + (n : Int) % 10) % 256 = c.toNat := by rw [← hcn]; omega
  by_cases h : (n : Int) < 10
  ·have HD : Hid (Lib.decDigits n = [c]) := by show _ = _; rw [Lib.decDigits, dif_pos (by omega), ← hc, Nat.mod_eq_of_lt (by omega)]
   clear ih hc
   go_enter Tryz.func21, Tryz.ntmps21
   go_wp2_with fail
   go_ret
   exact ⟨by rw [HD.out]; rfl, by (repeat (first | exact Fr.refl _ _ | assumption | refine Fr.drewNr ?_ _ | refine Fr.drewr ?_ | refine Fr.allocr ?_ _ | refine Fr.setCellr ?_ _ _ (by first | exact Or.inl rfl | (right; simp; done) | (right; simp; omega)))), by rw [HD.out]; simp⟩
  ·have HD : Hid (Lib.decDigits n = Lib.decDigits (n / 10) ++ [c]) := by show _ = _; rw [Lib.decDigits, dif_neg (by omega), ← hc]
   have HI : Hid (∀ w', Calls Tryz.prog 21 #[.int .i64 ((n / 10 : Nat) : Int)] w' fun e w'' => e = .returned (.string ⟨(Lib.decDigits (n / 10)).toArray⟩) ∧ Fr (fun _ => False) w' w'' ∧ (Lib.decDigits (n / 10)).length ≤ n / 10 + 1) := fun w' => ih (n / 10) (by omega) w' (by omega)
   clear ih hc
   go_enter Tryz.func21, Tryz.ntmps21
   go_wp2_with fail
   refine Calls.mono (HI.out _) ?_
   rintro e w1 ⟨rfl, hf1, hl1⟩
   have hs1 : (⟨(Lib.decDigits (n / 10)).toArray⟩ : ByteArray).size ≤ 1000000 := by show (Lib.decDigits (n / 10)).toArray.size ≤ _; simp; omega
   have HF : Hid (Fr (fun _ => False) w w1) := Fr.thenr (by (repeat (first | exact Fr.refl _ _ | assumption | refine Fr.drewNr ?_ _ | refine Fr.drewr ?_ | refine Fr.allocr ?_ _ | refine Fr.setCellr ?_ _ _ (by first | exact Or.inl rfl | (right; simp; done) | (right; simp; omega))))) hf1 (fun _ _ h => h)
   go_wp2_with fail
   go_ret
   refine ⟨?_, HF.out, by rw [HD.out, List.length_append]; simp; omega⟩
   have e : (⟨(Lib.decDigits (n / 10)).toArray⟩ ++ ⟨#[c]⟩ : ByteArray) = ⟨(Lib.decDigits (n / 10) ++ [c]).toArray⟩ := by
    apply ByteArray.ext
    rw [ByteArray.data_append]
    simp
   rw [HD.out, ← e]
   rfl
end Go.Proofs.YtmolmbeeoecnfaaGreatDoor

/- Own work: the events of a right chart's transitions are small letters. -/
namespace Go.Proofs.YtmolmbeeoecnfaaGreatDoor
open Go.RowKit Go.BigFrame
set_option linter.unusedVariables false
set_option linter.unusedSimpArgs false

def EvS (r : Rn) : Prop := ∀ t ∈ r.tr, isE t.event = true
theorem rtP_ev (s : ByteArray) (own i : Nat) (h : (rtP s own i).1 = true) : isE (rtP s own i).2.2.event = true := by
 unfold rtP at h ⊢
 simp only at h ⊢
 split
 ·rename_i h1; rw [if_pos h1] at h; cases h
 ·rename_i h1
  rw [if_neg h1] at h
  split
  ·rename_i h2; rw [if_pos h2] at h; cases h
  ·rename_i h2
   rw [if_neg h2] at h
   split
   ·rename_i h3; rw [if_pos h3] at h; cases h
   ·rename_i h3
    rw [if_neg h3] at h
    split
    ·rename_i h4; rw [if_pos h4] at h; cases h
    ·simpa using h1
theorem EvS.rtF {s : ByteArray} {own : Nat} : ∀ (f : Nat) (r : Rn), EvS r → (rtF s own f r).1 = true → EvS (rtF s own f r).2
 | 0, r, h, _ => h
 | f + 1, r, h, hk => by
  simp only [Proofs.YtmolmbeeoecnfaaGreatDoor.rtF] at hk ⊢
  split at hk
  ·rename_i h47
   rw [if_pos h47]
   split at hk
   ·rename_i hok
    rw [if_pos hok]
    refine EvS.rtF f _ ?_ hk
    intro t ht
    rcases List.mem_append.1 ht with ht | ht
    ·exact h t ht
    ·simp only [List.mem_cons, List.not_mem_nil, or_false] at ht
     rw [ht]; exact rtP_ev s own r.i hok
   ·cases hk
  ·rename_i h47
   rw [if_neg h47]; exact h
theorem nmK_mem (st : List StP) (l : List Bool) (c : UInt8) : ∀ k, c ∈ nmK st l k ↔ ∃ j, j < k ∧ mem l j = true ∧ nameAt st j = c
 | 0 => by simp [nmK]
 | k + 1 => by
  have ih := nmK_mem st l c k
  rw [nmK]
  by_cases h : mem l k = true
  ·rw [if_pos h, List.mem_append, ih]
   constructor
   ·rintro (⟨j, h1, h2, h3⟩ | h1)
    ·exact ⟨j, by omega, h2, h3⟩
    ·simp only [List.mem_cons, List.not_mem_nil, or_false] at h1
     exact ⟨k, by omega, h, h1.symm⟩
   ·rintro ⟨j, h1, h2, h3⟩
    by_cases e : j = k
    ·subst e; exact Or.inr (by simp [h3])
    ·exact Or.inl ⟨j, by omega, h2, h3⟩
  ·rw [if_neg h, ih]
   constructor
   ·rintro ⟨j, h1, h2, h3⟩; exact ⟨j, by omega, h2, h3⟩
   ·rintro ⟨j, h1, h2, h3⟩
    by_cases e : j = k
    ·subst e; exact absurd h2 h
    ·exact ⟨j, by omega, h2, h3⟩
theorem un_names {s : ByteArray} (h : (unE s).1 = 0) : (∀ k, k < (unSt s).length → isN (nameAt (unSt s) k) = true) ∧ ∀ i k, i < k → k < (unSt s).length → nameAt (unSt s) i ≠ nameAt (unSt s) k := by
 obtain ⟨h160, hK, hw, hv, hm⟩ := unE_ok h
 have hok : (rcR s).1 = true := by
  simp only [rcK, Bool.and_eq_true] at hK
  exact hK.1
 have hI0 : RdInv s R0 := ⟨Nat.zero_le _, Nat.le_refl _, Nat.le_refl _⟩
 have hsh := rsF_shp s (s.size + 1) R0 (-1) 1 hI0 (by show s.size - 0 < _; omega) (Int.le_refl _) (by show (-1 : Int) < ((0 : Nat) : Int); omega) hok
 have hShp : Shp s R0 (rcR s).2 := hsh.1
 have hS := un_sm h
 have hl := hS.1
 have hget : ∀ k, k < (unSt s).length → ∃ y, (rcR s).2.st[k]? = some y ∧ nameAt (unSt s) k = y.name := by
  intro k hk
  obtain ⟨x, hx⟩ : ∃ x, (unSt s)[k]? = some x := ⟨_, List.getElem?_eq_getElem hk⟩
  obtain ⟨y, hy, hs⟩ := hS.2 k x hx
  exact ⟨y, hy, by rw [nameAt_at hx]; exact hs.n⟩
 refine ⟨fun k hk => ?_, fun i k hik hk he => ?_⟩
 ·obtain ⟨y, hy, hn⟩ := hget k hk
  rw [hn]; exact (hShp.each k y (Nat.zero_le _) hy).nm
 ·obtain ⟨y, hy, hn⟩ := hget k hk
  obtain ⟨z, hz, hn2⟩ := hget i (by omega)
  have h1 := ftw_all hw hy
  have h2 := idxP_le hz y.name (by rw [← hn2, ← hn]; exact he)
  omega
end Go.Proofs.YtmolmbeeoecnfaaGreatDoor
