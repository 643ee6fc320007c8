/- Own work: BaseF, LawBase. -/
import Derived.WalkKit
import Derived.WalkSpells
import Derived.Deep.RegionLaw
import Derived.Deep.QuietTactic
import Derived.Test.YtmolmbeeoecnfaaGreatDoorRows
import Derived.Test.YtmolmbeeoecnfaaGreatDoorProg
import Derived.ProofKit
import Derived.OpenShut
import Derived.ShutString
/- Own work: frames of the heap, blocks of cells, one element appended. Names nothing of the program. -/
namespace Go.Proofs.YtmolmbeeoecnfaaGreatDoor
open Go.RowKit

structure Fr (S : Nat → Prop) (w w' : World) : Prop where
 os : w'.os = w.os
 tape : w'.tape = w.tape
 output : w'.output = w.output
 size : w.heap.size ≤ w'.heap.size
 block : ∀ k, k < w.heap.size → ¬ S k → w'.heap[k]? = w.heap[k]?

theorem Fr.refl (S : Nat → Prop) (w : World) : Fr S w w := ⟨rfl, rfl, rfl, Nat.le_refl _, fun _ _ _ => rfl⟩

theorem Fr.trans {S T U : Nat → Prop} {a b c : World} (h : Fr S a b) (k : Fr T b c) (hs : ∀ i, i < a.heap.size → S i → U i) (ht : ∀ i, i < a.heap.size → T i → U i) : Fr U a c :=
  ⟨k.os.trans h.os, k.tape.trans h.tape, k.output.trans h.output, Nat.le_trans h.size k.size,
   fun i hi hu => (k.block i (Nat.lt_of_lt_of_le hi h.size) (fun t => hu (ht i hi t))).trans (h.block i hi (fun s => hu (hs i hi s)))⟩

theorem Fr.mono {S T : Nat → Prop} {a b : World} (h : Fr S a b) (hs : ∀ i, i < a.heap.size → S i → T i) : Fr T a b :=
 ⟨h.os, h.tape, h.output, h.size, fun i hi hu => h.block i hi (fun s => hu (hs i hi s))⟩

theorem Fr.drewN (S : Nat → Prop) (w : World) (n : Nat) : Fr S w (w.drewN n) := ⟨rfl, rfl, rfl, Nat.le_refl _, fun _ _ _ => rfl⟩
theorem Fr.drew (S : Nat → Prop) (w : World) : Fr S w w.drew := ⟨rfl, rfl, rfl, Nat.le_refl _, fun _ _ _ => rfl⟩
theorem Fr.alloc (S : Nat → Prop) (w : World) (o : Obj) : Fr S w (w.alloc o) :=
 ⟨rfl, rfl, rfl, by simp, fun k hk _ => Below.heap_alloc _ _ _ hk⟩
theorem Fr.setCell (S : Nat → Prop) (w : World) (a : Addr) (v : Value) (h : S a.block) : Fr S w (w.setCell a v) :=
 ⟨rfl, rfl, rfl, by simp, fun k _ hs => Below.heap_setCell _ _ _ _ (fun e => hs (e ▸ h))⟩
theorem Fr.grown (S : Nat → Prop) {w w' : World} {row : Option Nat} (h : w.grownBy w' row) (hr : ∀ k, row = some k → S k) : Fr S w w' :=
 ⟨h.os, h.tape, h.output, h.size, fun k hk hs => h.block k hk (fun e => hs (hr k e.symm))⟩
theorem Fr.drewNr {S : Nat → Prop} {a w : World} (h : Fr S a w) (n : Nat) : Fr S a (w.drewN n) := ⟨h.os, h.tape, h.output, h.size, h.block⟩
theorem Fr.drewr {S : Nat → Prop} {a w : World} (h : Fr S a w) : Fr S a w.drew := ⟨h.os, h.tape, h.output, h.size, h.block⟩
theorem Fr.allocr {S : Nat → Prop} {a w : World} (h : Fr S a w) (o : Obj) : Fr S a (w.alloc o) :=
 h.trans (Fr.alloc (fun _ => False) w o) (fun _ _ h => h) (fun _ _ h => h.elim)
theorem Fr.setCellr {S : Nat → Prop} {a w : World} (h : Fr S a w) (p : Addr) (v : Value) (hp : S p.block ∨ a.heap.size ≤ p.block) : Fr S a (w.setCell p v) :=
 h.trans (Fr.setCell (· = p.block) w p v rfl) (fun _ _ h => h) (fun i hi e => by rcases hp with hp | hp; exact e ▸ hp; omega)
theorem Fr.thenr {S T : Nat → Prop} {a b c : World} (h : Fr S a b) (k : Fr T b c) (ht : ∀ i, i < a.heap.size → T i → S i) : Fr S a c := h.trans k (fun _ _ h => h) ht

theorem Fr.below {S : Nat → Prop} {w w' : World} (h : Fr S w w') (B : Nat) (hB : B ≤ w.heap.size) (hS : ∀ k, S k → B ≤ k) : Below B w w' :=
 ⟨h.os, h.tape, h.output, h.size, fun k hk => h.block k (by omega) (fun s => by have := hS k s; omega)⟩

def Blk (w : World) (b : Nat) (c : Array Value) (e : TypeId) : Prop := w.heap[b]? = some (.cells c e (0, 0))

theorem Blk.lt {w : World} {b : Nat} {c : Array Value} {e : TypeId} (h : Blk w b c e) : b < w.heap.size := (Array.getElem?_eq_some_iff.1 h).1
theorem Blk.cell {w : World} {b : Nat} {c : Array Value} {e : TypeId} (h : Blk w b c e) (o : Nat) : w.cell? ⟨b, o, none⟩ = c[o]? := by
 unfold Blk at h; simp [World.cell?, h]
theorem Blk.frozen {w : World} {b : Nat} {c : Array Value} {e : TypeId} (h : Blk w b c e) (o : Nat) : w.frozen? ⟨b, o, none⟩ = false := by
 unfold Blk at h; simp [World.frozen?, h]
theorem Blk.fr {S : Nat → Prop} {w w' : World} {b : Nat} {c : Array Value} {e : TypeId} (h : Blk w b c e) (f : Fr S w w') (hs : ¬ S b) : Blk w' b c e :=
 (f.block b h.lt hs).trans h
theorem Blk.drewN {w : World} {b : Nat} {c : Array Value} {e : TypeId} (h : Blk w b c e) (n : Nat) : Blk (w.drewN n) b c e := h
theorem Blk.drew {w : World} {b : Nat} {c : Array Value} {e : TypeId} (h : Blk w b c e) : Blk w.drew b c e := h
theorem Blk.alloc {w : World} {b : Nat} {c : Array Value} {e : TypeId} (h : Blk w b c e) (o : Obj) : Blk (w.alloc o) b c e :=
 (Below.heap_alloc _ _ _ h.lt).trans h
theorem Blk.new (w : World) (c : Array Value) (e : TypeId) : Blk (w.alloc (.cells c e)) w.heap.size c e := heap_alloc_new w _
theorem Blk.new' (w : World) (c : Array Value) (e : TypeId) (n : Nat) (h : n = w.heap.size) : Blk (w.alloc (.cells c e)) n c e := by subst h; exact Blk.new w c e
theorem cells_new {w : World} {n : Nat} {xs : List Value} {t : TypeId} (hb : Blk w n xs.toArray t) : ∀ j u, xs[j]? = some u → w.cell? ((⟨n, 0, none⟩ : Addr).add j) = some u := by
 intro j u h
 rw [Addr.add_lit, hb.cell]
 simpa using h
theorem Blk.set {w : World} {b : Nat} {c : Array Value} {e : TypeId} (h : Blk w b c e) (o : Nat) (v : Value) : Blk (w.setCell ⟨b, o, none⟩ v) b (c.setIfInBounds o v) e := by
 unfold Blk at *
 simp only [World.setCell, Array.getElem?_modify]
 simp [h]
theorem Blk.other {w : World} {b : Nat} {c : Array Value} {e : TypeId} (h : Blk w b c e) (a : Addr) (v : Value) (hne : b ≠ a.block) : Blk (w.setCell a v) b c e :=
 (Below.heap_setCell _ _ _ _ hne).trans h

def strLen : Value → Nat | .string t => t.size | _ => 0
theorem strLen_string (t : ByteArray) : strLen (.string t) = t.size := rfl

end Go.Proofs.YtmolmbeeoecnfaaGreatDoor

/- Own work: the first number with a property. -/
namespace Go.Proofs.YtmolmbeeoecnfaaGreatDoor

def firstB (P : Nat → Bool) : Nat → Option Nat
 | 0 => none
 | n + 1 => match firstB P n with
  | some k => some k
  | none => if P n = true then some n else none

theorem firstB_none (P : Nat → Bool) : ∀ n, (∀ j, j < n → P j = false) → firstB P n = none
 | 0, _ => rfl
 | n + 1, h => by
  simp only [firstB]
  rw [firstB_none P n (fun j hj => h j (by omega)), if_neg (by simp [h n (by omega)])]

theorem firstB_some (P : Nat → Bool) (k : Nat) (hk : P k = true) (hj : ∀ j, j < k → P j = false) : ∀ n, k < n → firstB P n = some k
 | 0, h => by omega
 | n + 1, h => by
  simp only [firstB]
  by_cases e : k < n
  ·rw [firstB_some P k hk hj n e]
  ·have : n = k := by omega
   subst this
   rw [firstB_none P n hj, if_pos hk]

theorem firstB_spec (P : Nat → Bool) : ∀ n, (firstB P n = none ∧ ∀ j, j < n → P j = false) ∨ ∃ k, firstB P n = some k ∧ k < n ∧ P k = true ∧ ∀ j, j < k → P j = false
 | 0 => Or.inl ⟨rfl, fun j h => by omega⟩
 | n + 1 => by
  rcases firstB_spec P n with ⟨h1, h2⟩ | ⟨k, h1, h2, h3, h4⟩
  ·cases hp : P n
   ·exact Or.inl ⟨by simp [firstB, h1, hp], fun j hj => by by_cases e : j = n; exact e ▸ hp; exact h2 j (by omega)⟩
   ·exact Or.inr ⟨n, by simp [firstB, h1, hp], by omega, hp, h2⟩
  ·exact Or.inr ⟨k, by simp [firstB, h1], by omega, h3, h4⟩

theorem firstB_congr (P Q : Nat → Bool) (n : Nat) (h : ∀ j, j < n → P j = Q j) : firstB P n = firstB Q n := by
 induction n with
 | zero => rfl
 | succ n ih => simp only [firstB]; rw [ih (fun j hj => h j (by omega)), h n (by omega)]

theorem below_step {P : Nat → Bool} {k : Nat} (h : ∀ j, j < k → P j = false) (hk : P k = false) : ∀ j, j < k + 1 → P j = false := by
 intro j hj
 by_cases e : j = k
 ·exact e ▸ hk
 ·exact h j (by omega)
end Go.Proofs.YtmolmbeeoecnfaaGreatDoor

/- Own work: what each law's walk needs. -/
namespace Go.Proofs.YtmolmbeeoecnfaaGreatDoor
open Go.RowKit Go.BigFrame
set_option linter.unusedVariables false
set_option linter.unusedSimpArgs false

theorem lawNum_any (w : World) (x : Int) : Calls Tryz.prog 7 #[.int .i64 x] w fun e w' => e = .returned (.int .i64 x) ∧ w' = w := by
 go_enter Tryz.func7, Tryz.ntmps7
 go_wp2
 go_ret
 exact ⟨rfl, rfl⟩
theorem own_knob : ownKnob Tryz.prog.godebug = none := by kernel_rfl
end Go.Proofs.YtmolmbeeoecnfaaGreatDoor
