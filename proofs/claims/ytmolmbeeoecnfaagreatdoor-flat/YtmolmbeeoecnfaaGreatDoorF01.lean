/- Own work: BaseF, LawBase, PenA. -/
import Derived.WalkKit
import Derived.WalkSpells
import Derived.Deep.RegionLaw
import Derived.Deep.QuietTactic
import Derived.Test.YtmolmbeeoecnfaaGreatDoorRows
import Derived.Test.YtmolmbeeoecnfaaGreatDoorProg
import Derived.ProofKit
import Derived.OpenShut
import Derived.ShutString
import Derived.WalkLawsBesides
import Derived.BigQuiet
/- Own work: frames of the heap, blocks of cells, one element appended. Names nothing of the program. -/
namespace Go.Proofs.YtmolmbeeoecnfaaGreatDoor
open Go.RowKit

structure Fr (S : Nat → Prop) (w w' : World) : Prop where
 os : w'.os = w.os
 tape : w'.tape = w.tape
 output : w'.output = w.output
 size : w.heap.size ≤ w'.heap.size
 block : ∀ k, k < w.heap.size → ¬ S k → w'.heap[k]? = w.heap[k]?

theorem Fr.refl (S : Nat → Prop) (w : World) : Fr S w w := ⟨rfl, rfl, rfl, Nat.le_refl _, fun _ _ _ => rfl⟩

theorem Fr.trans {S T U : Nat → Prop} {a b c : World} (h : Fr S a b) (k : Fr T b c) (hs : ∀ i, i < a.heap.size → S i → U i) (ht : ∀ i, i < a.heap.size → T i → U i) : Fr U a c :=
  ⟨k.os.trans h.os, k.tape.trans h.tape, k.output.trans h.output, Nat.le_trans h.size k.size,
   fun i hi hu => (k.block i (Nat.lt_of_lt_of_le hi h.size) (fun t => hu (ht i hi t))).trans (h.block i hi (fun s => hu (hs i hi s)))⟩

theorem Fr.mono {S T : Nat → Prop} {a b : World} (h : Fr S a b) (hs : ∀ i, i < a.heap.size → S i → T i) : Fr T a b :=
 ⟨h.os, h.tape, h.output, h.size, fun i hi hu => h.block i hi (fun s => hu (hs i hi s))⟩

theorem Fr.drewN (S : Nat → Prop) (w : World) (n : Nat) : Fr S w (w.drewN n) := ⟨rfl, rfl, rfl, Nat.le_refl _, fun _ _ _ => rfl⟩
theorem Fr.drew (S : Nat → Prop) (w : World) : Fr S w w.drew := ⟨rfl, rfl, rfl, Nat.le_refl _, fun _ _ _ => rfl⟩
theorem Fr.alloc (S : Nat → Prop) (w : World) (o : Obj) : Fr S w (w.alloc o) :=
 ⟨rfl, rfl, rfl, by simp, fun k hk _ => Below.heap_alloc _ _ _ hk⟩
theorem Fr.setCell (S : Nat → Prop) (w : World) (a : Addr) (v : Value) (h : S a.block) : Fr S w (w.setCell a v) :=
 ⟨rfl, rfl, rfl, by simp, fun k _ hs => Below.heap_setCell _ _ _ _ (fun e => hs (e ▸ h))⟩
theorem Fr.grown (S : Nat → Prop) {w w' : World} {row : Option Nat} (h : w.grownBy w' row) (hr : ∀ k, row = some k → S k) : Fr S w w' :=
 ⟨h.os, h.tape, h.output, h.size, fun k hk hs => h.block k hk (fun e => hs (hr k e.symm))⟩
theorem Fr.drewNr {S : Nat → Prop} {a w : World} (h : Fr S a w) (n : Nat) : Fr S a (w.drewN n) := ⟨h.os, h.tape, h.output, h.size, h.block⟩
theorem Fr.drewr {S : Nat → Prop} {a w : World} (h : Fr S a w) : Fr S a w.drew := ⟨h.os, h.tape, h.output, h.size, h.block⟩
theorem Fr.allocr {S : Nat → Prop} {a w : World} (h : Fr S a w) (o : Obj) : Fr S a (w.alloc o) :=
 h.trans (Fr.alloc (fun _ => False) w o) (fun _ _ h => h) (fun _ _ h => h.elim)
theorem Fr.setCellr {S : Nat → Prop} {a w : World} (h : Fr S a w) (p : Addr) (v : Value) (hp : S p.block ∨ a.heap.size ≤ p.block) : Fr S a (w.setCell p v) :=
 h.trans (Fr.setCell (· = p.block) w p v rfl) (fun _ _ h => h) (fun i hi e => by rcases hp with hp | hp; exact e ▸ hp; omega)
theorem Fr.thenr {S T : Nat → Prop} {a b c : World} (h : Fr S a b) (k : Fr T b c) (ht : ∀ i, i < a.heap.size → T i → S i) : Fr S a c := h.trans k (fun _ _ h => h) ht

theorem Fr.below {S : Nat → Prop} {w w' : World} (h : Fr S w w') (B : Nat) (hB : B ≤ w.heap.size) (hS : ∀ k, S k → B ≤ k) : Below B w w' :=
 ⟨h.os, h.tape, h.output, h.size, fun k hk => h.block k (by omega) (fun s => by have := hS k s; omega)⟩

def Blk (w : World) (b : Nat) (c : Array Value) (e : TypeId) : Prop := w.heap[b]? = some (.cells c e (0, 0))

theorem Blk.lt {w : World} {b : Nat} {c : Array Value} {e : TypeId} (h : Blk w b c e) : b < w.heap.size := (Array.getElem?_eq_some_iff.1 h).1
theorem Blk.cell {w : World} {b : Nat} {c : Array Value} {e : TypeId} (h : Blk w b c e) (o : Nat) : w.cell? ⟨b, o, none⟩ = c[o]? := by
 unfold Blk at h; simp [World.cell?, h]
theorem Blk.frozen {w : World} {b : Nat} {c : Array Value} {e : TypeId} (h : Blk w b c e) (o : Nat) : w.frozen? ⟨b, o, none⟩ = false := by
 unfold Blk at h; simp [World.frozen?, h]
theorem Blk.fr {S : Nat → Prop} {w w' : World} {b : Nat} {c : Array Value} {e : TypeId} (h : Blk w b c e) (f : Fr S w w') (hs : ¬ S b) : Blk w' b c e :=
 (f.block b h.lt hs).trans h
theorem Blk.drewN {w : World} {b : Nat} {c : Array Value} {e : TypeId} (h : Blk w b c e) (n : Nat) : Blk (w.drewN n) b c e := h
theorem Blk.drew {w : World} {b : Nat} {c : Array Value} {e : TypeId} (h : Blk w b c e) : Blk w.drew b c e := h
theorem Blk.alloc {w : World} {b : Nat} {c : Array Value} {e : TypeId} (h : Blk w b c e) (o : Obj) : Blk (w.alloc o) b c e :=
 (Below.heap_alloc _ _ _ h.lt).trans h
theorem Blk.new (w : World) (c : Array Value) (e : TypeId) : Blk (w.alloc (.cells c e)) w.heap.size c e := heap_alloc_new w _
theorem Blk.new' (w : World) (c : Array Value) (e : TypeId) (n : Nat) (h : n = w.heap.size) : Blk (w.alloc (.cells c e)) n c e := by subst h; exact Blk.new w c e
theorem cells_new {w : World} {n : Nat} {xs : List Value} {t : TypeId} (hb : Blk w n xs.toArray t) : ∀ j u, xs[j]? = some u → w.cell? ((⟨n, 0, none⟩ : Addr).add j) = some u := by
 intro j u h
 rw [Addr.add_lit, hb.cell]
 simpa using h
theorem Blk.set {w : World} {b : Nat} {c : Array Value} {e : TypeId} (h : Blk w b c e) (o : Nat) (v : Value) : Blk (w.setCell ⟨b, o, none⟩ v) b (c.setIfInBounds o v) e := by
 unfold Blk at *
 simp only [World.setCell, Array.getElem?_modify]
 simp [h]
theorem Blk.other {w : World} {b : Nat} {c : Array Value} {e : TypeId} (h : Blk w b c e) (a : Addr) (v : Value) (hne : b ≠ a.block) : Blk (w.setCell a v) b c e :=
 (Below.heap_setCell _ _ _ _ hne).trans h

def strLen : Value → Nat | .string t => t.size | _ => 0
theorem strLen_string (t : ByteArray) : strLen (.string t) = t.size := rfl

end Go.Proofs.YtmolmbeeoecnfaaGreatDoor

/- Own work: the first number with a property. -/
namespace Go.Proofs.YtmolmbeeoecnfaaGreatDoor

def firstB (P : Nat → Bool) : Nat → Option Nat
 | 0 => none
 | n + 1 => match firstB P n with
  | some k => some k
  | none => if P n = true then some n else none

theorem firstB_none (P : Nat → Bool) : ∀ n, (∀ j, j < n → P j = false) → firstB P n = none
 | 0, _ => rfl
 | n + 1, h => by
  simp only [firstB]
  rw [firstB_none P n (fun j hj => h j (by omega)), if_neg (by simp [h n (by omega)])]

theorem firstB_some (P : Nat → Bool) (k : Nat) (hk : P k = true) (hj : ∀ j, j < k → P j = false) : ∀ n, k < n → firstB P n = some k
 | 0, h => by omega
 | n + 1, h => by
  simp only [firstB]
  by_cases e : k < n
  ·rw [firstB_some P k hk hj n e]
  ·have : n = k := by omega
   subst this
   rw [firstB_none P n hj, if_pos hk]

theorem firstB_spec (P : Nat → Bool) : ∀ n, (firstB P n = none ∧ ∀ j, j < n → P j = false) ∨ ∃ k, firstB P n = some k ∧ k < n ∧ P k = true ∧ ∀ j, j < k → P j = false
 | 0 => Or.inl ⟨rfl, fun j h => by omega⟩
 | n + 1 => by
  rcases firstB_spec P n with ⟨h1, h2⟩ | ⟨k, h1, h2, h3, h4⟩
  ·cases hp : P n
   ·exact Or.inl ⟨by simp [firstB, h1, hp], fun j hj => by by_cases e : j = n; exact e ▸ hp; exact h2 j (by omega)⟩
   ·exact Or.inr ⟨n, by simp [firstB, h1, hp], by omega, hp, h2⟩
  ·exact Or.inr ⟨k, by simp [firstB, h1], by omega, h3, h4⟩

theorem firstB_congr (P Q : Nat → Bool) (n : Nat) (h : ∀ j, j < n → P j = Q j) : firstB P n = firstB Q n := by
 induction n with
 | zero => rfl
 | succ n ih => simp only [firstB]; rw [ih (fun j hj => h j (by omega)), h n (by omega)]

theorem below_step {P : Nat → Bool} {k : Nat} (h : ∀ j, j < k → P j = false) (hk : P k = false) : ∀ j, j < k + 1 → P j = false := by
 intro j hj
 by_cases e : j = k
 ·exact e ▸ hk
 ·exact h j (by omega)
end Go.Proofs.YtmolmbeeoecnfaaGreatDoor

/- Own work: what each law's walk needs. -/
namespace Go.Proofs.YtmolmbeeoecnfaaGreatDoor
open Go.RowKit Go.BigFrame
set_option linter.unusedVariables false
set_option linter.unusedSimpArgs false

theorem lawNum_any (w : World) (x : Int) : Calls Tryz.prog 7 #[.int .i64 x] w fun e w' => e = .returned (.int .i64 x) ∧ w' = w := by
 go_enter Tryz.func7, Tryz.ntmps7
 go_wp2
 go_ret
 exact ⟨rfl, rfl⟩
theorem own_knob : ownKnob Tryz.prog.godebug = none := by kernel_rfl
end Go.Proofs.YtmolmbeeoecnfaaGreatDoor

/- Own work: the plain mathematics of reading bytes. Names nothing of the program. -/
namespace Go.Proofs.YtmolmbeeoecnfaaGreatDoor

def byte (s : ByteArray) (i : Nat) : UInt8 := if h : i < s.size then s[i] else 0

theorem byte_in (s : ByteArray) (i : Nat) (h : i < s.size) : byte s i = s[i] := by simp [byte, h]
theorem byte_out (s : ByteArray) (i : Nat) (h : ¬ i < s.size) : byte s i = 0 := by simp [byte, h]

def isD (c : UInt8) : Bool := 48 ≤ c && c ≤ 57

def dendF (s : ByteArray) : Nat → Nat → Nat
 | 0, i => i
 | f + 1, i => if isD (byte s i) = true then dendF s f (i + 1) else i
def dend (s : ByteArray) (i : Nat) : Nat := dendF s (s.size - i) i

theorem isD_in (s : ByteArray) (i : Nat) (h : isD (byte s i) = true) : i < s.size := by
 by_cases e : i < s.size
 ·exact e
 ·rw [byte_out s i e] at h; simp [isD] at h

theorem dend_go (s : ByteArray) (i : Nat) (h : isD (byte s i) = true) : i < s.size ∧ dend s i = dend s (i + 1) := by
 have hi := isD_in s i h
 refine ⟨hi, ?_⟩
 unfold dend
 rw [show s.size - i = (s.size - (i + 1)) + 1 by omega]
 simp only [dendF]
 rw [if_pos h]

theorem dend_stop (s : ByteArray) (i : Nat) (h : isD (byte s i) = false) : dend s i = i := by
 unfold dend
 cases hn : s.size - i with
 | zero => rfl
 | succ n => simp [dendF, h]

theorem dend_ge (s : ByteArray) (i : Nat) : i ≤ dend s i := by
 unfold dend
 generalize s.size - i = n
 induction n generalizing i with
 | zero => exact Nat.le_refl _
 | succ n ih =>
  simp only [dendF]
  split
  ·have := ih (i + 1); omega
  ·exact Nat.le_refl _

theorem dend_le (s : ByteArray) (i : Nat) (h : i ≤ s.size) : dend s i ≤ s.size := by
 unfold dend
 generalize hn : s.size - i = n
 induction n generalizing i with
 | zero => exact h
 | succ n ih =>
  simp only [dendF]
  split
  ·exact ih (i + 1) (by omega) (by omega)
  ·exact h

def cut (s : ByteArray) (i j : Nat) : ByteArray := ⟨((s.data.toList.drop i).take (j - i)).toArray⟩

theorem cut_self (s : ByteArray) (i : Nat) : cut s i i = ByteArray.empty := by
 simp [cut]; rfl
theorem cut_snoc (s : ByteArray) (i j : Nat) (hij : i ≤ j) (h : j < s.size) : cut s i (j + 1) = cut s i j ++ ⟨#[byte s j]⟩ := by
 apply ByteArray.ext
 rw [ByteArray.data_append]
 unfold cut
 rw [byte_in s j h]
 apply Array.toList_inj.1
 simp only [Array.toList_append]
 rw [show j + 1 - i = (j - i) + 1 by omega, List.take_succ_eq_append_getElem (by simp; exact (by have : s.data.size = s.size := rfl; omega))]
 simp only [List.getElem_drop]
 congr 2
 simp only [show i + (j - i) = j by omega]
 rfl

theorem cut_size (s : ByteArray) (i j : Nat) (hij : i ≤ j) (h : j ≤ s.size) : (cut s i j).size = j - i := by
 have e : s.data.size = s.size := rfl
 show (List.toArray _).size = _
 simp only [List.size_toArray, List.length_take, List.length_drop, Array.length_toList]
 omega

theorem isD_iff (c : UInt8) : isD c = true ↔ (48 : Int) ≤ c.toNat ∧ (c.toNat : Int) ≤ 57 := by
 simp only [isD, Bool.and_eq_true, decide_eq_true_eq, UInt8.le_iff_toNat_le]
 show (48 ≤ c.toNat ∧ c.toNat ≤ 57) ↔ _
 omega

end Go.Proofs.YtmolmbeeoecnfaaGreatDoor

/- Own work: walks of the document's reader: ahead, take, digits. -/
namespace Go.Proofs.YtmolmbeeoecnfaaGreatDoor
open Go.RowKit Go.BigFrame
set_option linter.unusedVariables false
set_option linter.unusedSimpArgs false

def PenB (w : World) (b : Nat) (s : ByteArray) (i : Nat) (bad : Int) (v3 v4 v5 v6 : Value) : Prop :=
 Blk w b #[.string s, .int .i64 i, .int .i64 bad, v3, v4, v5, v6] 91

theorem PenB.cells {w : World} {b : Nat} {s : ByteArray} {i : Nat} {bad : Int} {v3 v4 v5 v6 : Value} (h : PenB w b s i bad v3 v4 v5 v6) :
  w.cell? ⟨b, 0, none⟩ = some (.string s) ∧ w.cell? ⟨b, 1, none⟩ = some (.int .i64 i) ∧ w.cell? ⟨b, 2, none⟩ = some (.int .i64 bad) ∧
  w.cell? ⟨b, 3, none⟩ = some v3 ∧ w.cell? ⟨b, 4, none⟩ = some v4 ∧ w.cell? ⟨b, 5, none⟩ = some v5 ∧ w.cell? ⟨b, 6, none⟩ = some v6 ∧ ∀ o, w.frozen? ⟨b, o, none⟩ = false := by
 refine ⟨?_, ?_, ?_, ?_, ?_, ?_, ?_, Blk.frozen h⟩ <;> (rw [Blk.cell h]; rfl)

theorem conv_bytes (w : World) (n : Nat) (cs : List UInt8) (h : (loadCells ⟨n, 0, none⟩ cs.length).run Tryz.prog w = .ok ((cs.map fun c => ((c.toNat : Nat) : Int)).map (Value.int .u8)).toArray w) :
  Sem.run Tryz.prog (convert 82 9 (.slice (some ⟨n, 0, none⟩) cs.length cs.length)) w = .ok (.string ⟨cs.toArray⟩) w := by
 rw [run_convert_bytes_string w 82 9 5 _ _ _ Tryz.underlying82 Tryz.underlying5 Tryz.underlying9, run_bytesToString w _ _ _ _ h]
 congr 2
 have key : ∀ (l : List UInt8) (acc : ByteArray), (l.map fun c => ((c.toNat : Nat) : Int)).foldl (fun r n => r.push (UInt8.ofNat n.toNat)) acc = ⟨acc.data ++ l.toArray⟩ := by
  intro l
  induction l with
  | nil => intro acc; simp
  | cons c l ih => intro acc; simp only [List.map_cons, List.foldl_cons]; rw [ih]; simp [ByteArray.push]
 rw [key]
 exact congrArg ByteArray.mk (by rw [show ByteArray.empty.data = #[] from rfl, Array.empty_append])
@[go_sem] theorem conv_one (w : World) (c : UInt8) :
  Sem.run Tryz.prog (convert 82 9 (.slice (some ⟨w.heap.size, 0, none⟩) 1 1)) (w.alloc (.cells #[.int .u8 c.toNat] 5)) = .ok (.string ⟨#[c]⟩) (w.alloc (.cells #[.int .u8 c.toNat] 5)) :=
 conv_bytes _ _ [c] (by simp [loadCells, loadCellsFrom, go_sem])
@[go_sem] theorem conv_two (w : World) (c d : UInt8) :
  Sem.run Tryz.prog (convert 82 9 (.slice (some ⟨w.heap.size, 0, none⟩) 2 2)) (w.alloc (.cells #[.int .u8 c.toNat, .int .u8 d.toNat] 5)) = .ok (.string ⟨#[c, d]⟩) (w.alloc (.cells #[.int .u8 c.toNat, .int .u8 d.toNat] 5)) :=
 conv_bytes _ _ [c, d] (by simp [loadCells, loadCellsFrom, go_sem])

theorem ret_u8 {a b : UInt8} (h : a = b) : Ending.returned (.int .u8 a.toNat) = .returned (.int .u8 b.toNat) := by rw [h]
theorem ret_u8_0 {b : UInt8} (h : b = 0) : Ending.returned (.int .u8 0) = .returned (.int .u8 b.toNat) := by rw [h]; rfl

theorem ret_str {a b : ByteArray} (h : a = b) : Ending.returned (.string a) = .returned (.string b) := by rw [h]

def ahd (s : ByteArray) (i : Nat) (bad : Int) : UInt8 := if bad < 0 then byte s i else 0

set_option maxHeartbeats 400000 in
theorem ahead_any (w : World) (b : Nat) (s : ByteArray) (i : Nat) (bad : Int) (v3 v4 v5 v6 : Value) (hp : PenB w b s i bad v3 v4 v5 v6) :
  Calls Tryz.prog 50 #[.pointer (some ⟨b, 0, none⟩)] w fun e w' => e = .returned (.int .u8 (ahd s i bad).toNat) ∧ ∃ n, w' = w.drewN n := by
 obtain ⟨c0, c1, c2, -⟩ := hp.cells
 clear hp
 by_cases hb : bad < 0
 ·by_cases hi : (i : Int) < s.size
  ·have HE : Hid (ahd s i bad = s[i]) := by show _ = _; rw [ahd, if_pos hb, byte_in s i (by omega)]
   go_enter Tryz.func50, Tryz.ntmps50
   go_wp2_with fail
   go_big_quiet (fail)
   go_wp2_with fail
   go_big_quiet (fail)
   go_wp2_with fail
   go_ret
   exact ⟨ret_u8 HE.out.symm, _, World.drewN_drewN ..⟩
  ·have hd : decide ((i : Int) < s.size) = false := by simpa using hi
   have HE : Hid (ahd s i bad = 0) := by show _ = _; rw [ahd, if_pos hb, byte_out s i (by omega)]
   go_enter Tryz.func50, Tryz.ntmps50
   go_wp2_with fail
   go_big_quiet (fail)
   go_wp2_with fail
   go_ret
   exact ⟨ret_u8_0 HE.out, _, rfl⟩
 ·have hd : decide (bad < 0) = false := by simpa using hb
  have HE : Hid (ahd s i bad = 0) := by show _ = _; rw [ahd, if_neg hb]
  go_enter Tryz.func50, Tryz.ntmps50
  go_wp2_with fail
  go_big_quiet (fail)
  go_wp2_with fail
  go_ret
  exact ⟨ret_u8_0 HE.out, _, rfl⟩

def tkOk (s : ByteArray) (lo hi : UInt8) (i : Nat) : Bool := i < s.size && lo ≤ byte s i && byte s i ≤ hi
def tkC (s : ByteArray) (lo hi : UInt8) (i : Nat) (bad : Int) : UInt8 := if 0 ≤ bad then 0 else if tkOk s lo hi i then byte s i else 0
def tkI (s : ByteArray) (lo hi : UInt8) (i : Nat) (bad : Int) : Nat := if 0 ≤ bad then i else if tkOk s lo hi i then i + 1 else i
def tkB (s : ByteArray) (lo hi : UInt8) (i : Nat) (bad : Int) : Int := if 0 ≤ bad then bad else if tkOk s lo hi i then bad else i

set_option maxHeartbeats 400000 in
theorem take_any (w : World) (b : Nat) (s : ByteArray) (lo hi : UInt8) (i : Nat) (bad : Int) (v3 v4 v5 v6 : Value) (hp : PenB w b s i bad v3 v4 v5 v6) (hn : i ≤ 1000000) :
    Calls Tryz.prog 48 #[.pointer (some ⟨b, 0, none⟩), .int .u8 lo.toNat, .int .u8 hi.toNat] w fun e w' => e = .returned (.int .u8 (tkC s lo hi i bad).toNat) ∧
      PenB w' b s (tkI s lo hi i bad) (tkB s lo hi i bad) v3 v4 v5 v6 ∧ Fr (· = b) w w' := by
  obtain ⟨c0, c1, c2, -, -, -, -, hf⟩ := hp.cells
  have hf1 := hf 1
  have hf2 := hf 2
  clear hf
  by_cases hb : 0 ≤ bad
  · have hC : Hid (tkC s lo hi i bad = 0 ∧ tkI s lo hi i bad = i ∧ tkB s lo hi i bad = bad) := ⟨by simp [tkC, hb], by simp [tkI, hb], by simp [tkB, hb]⟩
    go_enter Tryz.func48, Tryz.ntmps48
    go_wp2_with fail
    go_ret
    obtain ⟨e1, e2, e3⟩ := hC.out
    exact ⟨ret_u8_0 e1, by rw [e2, e3]; exact hp, Fr.refl _ _⟩
  · have db : decide (0 ≤ bad) = false := by simpa using hb
    by_cases hi0 : (i : Int) < s.size
    · have hx : decide (s.size ≤ i) = false := by simp; omega
      have hi1 : i < s.size := by omega
      by_cases h1 : (s[i].toNat : Int) < lo.toNat
      · have hk : tkOk s lo hi i = false := by
          simp only [tkOk, byte_in s i hi1]
          have : ¬ lo ≤ s[i] := by rw [UInt8.le_iff_toNat_le]; omega
          simp [this]
        have hC : Hid (tkC s lo hi i bad = 0 ∧ tkI s lo hi i bad = i ∧ tkB s lo hi i bad = i) := ⟨by simp [tkC, hb, hk], by simp [tkI, hb, hk], by simp [tkB, hb, hk]⟩
        clear hk
        go_enter Tryz.func48, Tryz.ntmps48
        go_wp2_with fail
        go_big_quiet (fail)
        go_wp2_with fail
        go_ret
        obtain ⟨e1, e2, e3⟩ := hC.out
        refine ⟨ret_u8_0 e1, ?_, ?_⟩
        · rw [e2, e3]; exact Blk.set hp 2 _
        · exact by (repeat (first | exact Fr.refl _ _ | assumption | refine Fr.drewNr ?_ _ | refine Fr.drewr ?_ | refine Fr.allocr ?_ _ | refine Fr.setCellr ?_ _ _ (by first | exact Or.inl rfl | (right; simp; done) | (right; simp; omega))))
      · by_cases h2 : (hi.toNat : Int) < s[i].toNat
        · have hk : tkOk s lo hi i = false := by
            simp only [tkOk, byte_in s i hi1]
            have : ¬ s[i] ≤ hi := by rw [UInt8.le_iff_toNat_le]; omega
            simp [this]
          have hC : Hid (tkC s lo hi i bad = 0 ∧ tkI s lo hi i bad = i ∧ tkB s lo hi i bad = i) := ⟨by simp [tkC, hb, hk], by simp [tkI, hb, hk], by simp [tkB, hb, hk]⟩
          clear hk
          have d1 : decide (s[i].toNat < lo.toNat) = false := by simp; omega
          have d1' : decide (s[i] < lo) = false := by simp [UInt8.lt_iff_toNat_lt]; omega
          go_enter Tryz.func48, Tryz.ntmps48
          go_wp2_with fail
          go_big_quiet (fail)
          go_wp2_with fail
          go_ret
          obtain ⟨e1, e2, e3⟩ := hC.out
          refine ⟨ret_u8_0 e1, ?_, ?_⟩
          · rw [e2, e3]; exact Blk.set hp 2 _
          · exact by (repeat (first | exact Fr.refl _ _ | assumption | refine Fr.drewNr ?_ _ | refine Fr.drewr ?_ | refine Fr.allocr ?_ _ | refine Fr.setCellr ?_ _ _ (by first | exact Or.inl rfl | (right; simp; done) | (right; simp; omega))))
        · have hk : tkOk s lo hi i = true := by
            simp only [tkOk, byte_in s i hi1]
            have : lo ≤ s[i] := by rw [UInt8.le_iff_toNat_le]; omega
            have : s[i] ≤ hi := by rw [UInt8.le_iff_toNat_le]; omega
            simp [*]
          have hC : Hid (tkC s lo hi i bad = s[i] ∧ tkI s lo hi i bad = i + 1 ∧ tkB s lo hi i bad = bad) := ⟨by simp [tkC, hb, hk, byte_in s i hi1], by simp [tkI, hb, hk], by simp [tkB, hb, hk]⟩
          clear hk
          have d1 : decide (s[i].toNat < lo.toNat) = false := by simp; omega
          have d1' : decide (s[i] < lo) = false := by simp [UInt8.lt_iff_toNat_lt]; omega
          have d2 : decide (hi.toNat < s[i].toNat) = false := by simp; omega
          have d2' : decide (hi < s[i]) = false := by simp [UInt8.lt_iff_toNat_lt]; omega
          go_enter Tryz.func48, Tryz.ntmps48
          go_wp2_with fail
          go_big_quiet (fail)
          go_wp2_with fail
          go_big_quiet (fail)
          go_wp2_with fail
          go_ret
          obtain ⟨e1, e2, e3⟩ := hC.out
          refine ⟨ret_u8 e1.symm, ?_, ?_⟩
          · rw [e2, e3]; exact Blk.set hp 1 _
          · exact by (repeat (first | exact Fr.refl _ _ | assumption | refine Fr.drewNr ?_ _ | refine Fr.drewr ?_ | refine Fr.allocr ?_ _ | refine Fr.setCellr ?_ _ _ (by first | exact Or.inl rfl | (right; simp; done) | (right; simp; omega))))
    · have hk : tkOk s lo hi i = false := by simp only [tkOk]; have : ¬ i < s.size := by omega
                                             simp [this]
      have hC : Hid (tkC s lo hi i bad = 0 ∧ tkI s lo hi i bad = i ∧ tkB s lo hi i bad = i) := ⟨by simp [tkC, hb, hk], by simp [tkI, hb, hk], by simp [tkB, hb, hk]⟩
      clear hk
      have hx : s.size ≤ i := by omega
      go_enter Tryz.func48, Tryz.ntmps48
      go_wp2_with fail
      go_big_quiet (fail)
      go_wp2_with fail
      go_ret
      obtain ⟨e1, e2, e3⟩ := hC.out
      refine ⟨ret_u8_0 e1, ?_, ?_⟩
      · rw [e2, e3]; exact Blk.set hp 2 _
      · exact by (repeat (first | exact Fr.refl _ _ | assumption | refine Fr.drewNr ?_ _ | refine Fr.drewr ?_ | refine Fr.allocr ?_ _ | refine Fr.setCellr ?_ _ _ (by first | exact Or.inl rfl | (right; simp; done) | (right; simp; omega))))
end Go.Proofs.YtmolmbeeoecnfaaGreatDoor

/- Own work: walks of the document's reader: digits, acts. -/
namespace Go.Proofs.YtmolmbeeoecnfaaGreatDoor
open Go.RowKit Go.BigFrame
set_option linter.unusedVariables false
set_option linter.unusedSimpArgs false

set_option maxRecDepth 100000 in
set_option maxHeartbeats 400000 in
theorem digits_good (w : World) (b : Nat) (s : ByteArray) (i : Nat) (bad : Int) (v3 v4 v5 v6 : Value) (hp : PenB w b s i bad v3 v4 v5 v6) (hs : s.size ≤ 1000000) (hn : i ≤ s.size) (hb : bad < 0) :
  Calls Tryz.prog 59 #[.pointer (some ⟨b, 0, none⟩)] w fun e w' => e = .returned (.string (cut s i (dend s i))) ∧
   PenB w' b s (dend s i) bad v3 v4 v5 v6 ∧ Fr (· = b) w w' := by
 go_enter Tryz.func59, Tryz.ntmps59
 go_wp2_with fail
 refine (ahead_any _ b s i bad v3 v4 v5 v6 hp).mono ?_
 rintro e w1 ⟨rfl, n, rfl⟩
 go_wp2_with fail
 go_loopw [3, 4] (fun vs vc wr => ∃ k : Nat, i ≤ k ∧ k ≤ s.size ∧ Hid (dend s i = dend s k) ∧ vs = .string (cut s i k) ∧ vc = .int .u8 (ahd s k bad).toNat ∧ PenB wr b s k bad v3 v4 v5 v6 ∧ Fr (· = b) w wr) (fun vs _ _ => s.size - strLen vs)
 case atStart => exact ⟨i, Nat.le_refl _, hn, rfl, by rw [cut_self]; rfl, rfl, hp, by (repeat (first | exact Fr.refl _ _ | assumption | refine Fr.drewNr ?_ _ | refine Fr.drewr ?_ | refine Fr.allocr ?_ _ | refine Fr.setCellr ?_ _ _ (by first | exact Or.inl rfl | (right; simp; done) | (right; simp; omega))))⟩
 case round =>
  obtain ⟨k, hk1, hk2, HD, rfl, rfl, hpk, hfr⟩ := hrel
  have hea : ahd s k bad = byte s k := by rw [ahd, if_pos hb]
  rw [hea]
  clear hea
  obtain ⟨c0, c1, c2, -, -, -, -, hfz⟩ := hpk.cells
  have hf1 := hfz 1
  have hbl := Blk.lt hpk
  clear hfz
  by_cases hd : isD (byte s k) = true
  ·obtain ⟨hks, hgo⟩ := dend_go s k hd
   have HD2 : Hid (dend s i = dend s (k + 1)) := HD.out.trans hgo
   have HC : Hid _ := cut_snoc s i k hk1 hks
   have HZ : Hid _ := cut_size s i (k + 1) (by omega) (by omega)
   have hsz : (cut s i k).size ≤ 1000000 := by rw [cut_size s i k hk1 hk2]; omega
   obtain ⟨d1, d2⟩ := (isD_iff _).1 hd
   clear hgo HD hd
   go_wp2_with fail
   refine (ahead_any _ b s (k + 1) bad v3 v4 v5 v6 (by exact Blk.alloc (Blk.set hpk 1 _) _)).mono ?_
   rintro e w2 ⟨rfl, m, rfl⟩
   go_wp2_with fail
   go_roundw
   case rel => exact ⟨k + 1, by omega, by omega, HD2, by rw [HC.out], rfl, Blk.drewN (Blk.alloc (Blk.set hpk 1 _) _) _, by (repeat (first | exact Fr.refl _ _ | assumption | refine Fr.drewNr ?_ _ | refine Fr.drewr ?_ | refine Fr.allocr ?_ _ | refine Fr.setCellr ?_ _ _ (by first | exact Or.inl rfl | (right; simp; done) | (right; simp; omega))))⟩
   case measure => rw [← HC.out, strLen_string, strLen_string, HZ.out, cut_size s i k hk1 hk2]; omega
  ·have hst := dend_stop s k (by simpa using hd)
   have HD2 : Hid (dend s i = k) := HD.out.trans hst
   have d1 : ¬ ((48 : Int) ≤ (byte s k).toNat ∧ ((byte s k).toNat : Int) ≤ 57) := fun h => hd ((isD_iff _).2 h)
   clear hst HD hd
   by_cases d2 : (48 : Int) ≤ (byte s k).toNat
   ·have d3 : ¬ ((byte s k).toNat : Int) ≤ 57 := fun h => d1 ⟨d2, h⟩
    clear d1
    go_wp2_with fail
    go_ret
    exact ⟨ret_str (by rw [HD2.out]), by rw [HD2.out]; exact hpk, hfr⟩
   ·clear d1
    go_wp2_with fail
    go_ret
    exact ⟨ret_str (by rw [HD2.out]), by rw [HD2.out]; exact hpk, hfr⟩

set_option maxRecDepth 100000 in
set_option maxHeartbeats 400000 in
theorem digits_bad (w : World) (b : Nat) (s : ByteArray) (i : Nat) (bad : Int) (v3 v4 v5 v6 : Value) (hp : PenB w b s i bad v3 v4 v5 v6) (hb : ¬ bad < 0) :
  Calls Tryz.prog 59 #[.pointer (some ⟨b, 0, none⟩)] w fun e w' => e = .returned (.string ByteArray.empty) ∧ ∃ n, w' = w.drewN n := by
 have Ha : Hid (ahd s i bad = 0) := by show _ = _; rw [ahd, if_neg hb]
 go_enter Tryz.func59, Tryz.ntmps59
 go_wp2_with fail
 refine (ahead_any _ b s i bad v3 v4 v5 v6 hp).mono ?_
 rintro e w1 ⟨rfl, n, rfl⟩
 rw [Ha.out]
 go_wp2_with fail
 go_loop [3, 4] (fun vs vc => vs = .string ⟨#[]⟩ ∧ vc = .int .u8 0) (fun _ _ => 0)
 case atStart => exact ⟨rfl, rfl⟩
 case round =>
  obtain ⟨rfl, rfl⟩ := hrel
  go_wp2_with fail
  go_ret
  exact ⟨rfl, n, rfl⟩

def dgI (s : ByteArray) (i : Nat) (bad : Int) : Nat := if bad < 0 then dend s i else i
def dgS (s : ByteArray) (i : Nat) (bad : Int) : ByteArray := cut s i (dgI s i bad)

theorem digits_any (w : World) (b : Nat) (s : ByteArray) (i : Nat) (bad : Int) (v3 v4 v5 v6 : Value) (hp : PenB w b s i bad v3 v4 v5 v6) (hs : s.size ≤ 1000000) (hn : i ≤ s.size) :
  Calls Tryz.prog 59 #[.pointer (some ⟨b, 0, none⟩)] w fun e w' => e = .returned (.string (dgS s i bad)) ∧
   PenB w' b s (dgI s i bad) bad v3 v4 v5 v6 ∧ Fr (· = b) w w' := by
 unfold dgS dgI
 by_cases hb : bad < 0
 ·rw [if_pos hb]; exact digits_good w b s i bad v3 v4 v5 v6 hp hs hn hb
 ·rw [if_neg hb, cut_self]
  refine (digits_bad w b s i bad v3 v4 v5 v6 hp hb).mono ?_
  rintro e w' ⟨rfl, n, rfl⟩
  exact ⟨rfl, hp, by (repeat (first | exact Fr.refl _ _ | assumption | refine Fr.drewNr ?_ _ | refine Fr.drewr ?_ | refine Fr.allocr ?_ _ | refine Fr.setCellr ?_ _ _ (by first | exact Or.inl rfl | (right; simp; done) | (right; simp; omega))))⟩

theorem dgI_bd (s : ByteArray) (i : Nat) (bad : Int) (h : i ≤ s.size) : i ≤ dgI s i bad ∧ dgI s i bad ≤ s.size := by
 unfold dgI; split
 ·exact ⟨dend_ge s i, dend_le s i h⟩
 ·exact ⟨Nat.le_refl _, h⟩

theorem tkI_bd (s : ByteArray) (lo hi : UInt8) (i : Nat) (bad : Int) (h : i ≤ s.size) : i ≤ tkI s lo hi i bad ∧ tkI s lo hi i bad ≤ s.size := by
 unfold tkI; split
 ·exact ⟨Nat.le_refl _, h⟩
 ·split
  ·rename_i h2; simp [tkOk] at h2; omega
  ·omega

theorem take_at (w : World) (b : Nat) (s : ByteArray) (lo hi : UInt8) (l h : Int) (hl : l = lo.toNat) (hh : h = hi.toNat) (i : Nat) (bad : Int) (v3 v4 v5 v6 : Value) (hp : PenB w b s i bad v3 v4 v5 v6) (hn : i ≤ 1000000) :
  Calls Tryz.prog 48 #[.pointer (some ⟨b, 0, none⟩), .int .u8 l, .int .u8 h] w fun e w' => e = .returned (.int .u8 (tkC s lo hi i bad).toNat) ∧
   PenB w' b s (tkI s lo hi i bad) (tkB s lo hi i bad) v3 v4 v5 v6 ∧ Fr (· = b) w w' := by
 subst hl; subst hh; exact take_any w b s lo hi i bad v3 v4 v5 v6 hp hn

def acGo (s : ByteArray) (sign : UInt8) (i : Nat) (bad : Int) : Bool := ahd s i bad == sign
def acI (s : ByteArray) (sign : UInt8) (i : Nat) (bad : Int) : Nat := if acGo s sign i bad then dgI s (tkI s 48 57 (i + 1) bad) (tkB s 48 57 (i + 1) bad) else i
def acB (s : ByteArray) (sign : UInt8) (i : Nat) (bad : Int) : Int := if acGo s sign i bad then tkB s 48 57 (i + 1) bad else bad
def acS (s : ByteArray) (sign : UInt8) (i : Nat) (bad : Int) : ByteArray := if acGo s sign i bad then ⟨#[tkC s 48 57 (i + 1) bad]⟩ ++ dgS s (tkI s 48 57 (i + 1) bad) (tkB s 48 57 (i + 1) bad) else ⟨#[]⟩

theorem acGo_in (s : ByteArray) (sign : UInt8) (i : Nat) (bad : Int) (h0 : sign ≠ 0) (h : acGo s sign i bad = true) : bad < 0 ∧ i < s.size := by
 simp only [acGo, beq_iff_eq, ahd] at h
 split at h
 ·refine ⟨‹_›, ?_⟩
  by_cases e : i < s.size
  ·exact e
  ·rw [byte_out s i e] at h; exact absurd h.symm h0
 ·exact absurd h.symm h0

theorem acI_bd (s : ByteArray) (sign : UInt8) (i : Nat) (bad : Int) (h0 : sign ≠ 0) (h : i ≤ s.size) : i ≤ acI s sign i bad ∧ acI s sign i bad ≤ s.size := by
 unfold acI; split
 ·have hi := (acGo_in s sign i bad h0 ‹_›).2
  have h1 := tkI_bd s 48 57 (i + 1) bad (by omega)
  have h2 := dgI_bd s (tkI s 48 57 (i + 1) bad) (tkB s 48 57 (i + 1) bad) h1.2
  omega
 ·omega

set_option maxRecDepth 100000 in
set_option maxHeartbeats 400000 in
theorem acts_any (w : World) (b : Nat) (s : ByteArray) (sign : UInt8) (i : Nat) (bad : Int) (v3 v4 v5 v6 : Value) (hp : PenB w b s i bad v3 v4 v5 v6) (hs : s.size ≤ 1000000) (hn : i ≤ s.size) (h0 : sign ≠ 0) :
  Calls Tryz.prog 49 #[.pointer (some ⟨b, 0, none⟩), .int .u8 sign.toNat] w fun e w' => e = .returned (.string (acS s sign i bad)) ∧
   PenB w' b s (acI s sign i bad) (acB s sign i bad) v3 v4 v5 v6 ∧ Fr (· = b) w w' := by
 by_cases hg : acGo s sign i bad = true
 ·obtain ⟨hb, hi⟩ := acGo_in s sign i bad h0 hg
  have HE : Hid (acS s sign i bad = ⟨#[tkC s 48 57 (i + 1) bad]⟩ ++ dgS s (tkI s 48 57 (i + 1) bad) (tkB s 48 57 (i + 1) bad) ∧ acI s sign i bad = dgI s (tkI s 48 57 (i + 1) bad) (tkB s 48 57 (i + 1) bad) ∧ acB s sign i bad = tkB s 48 57 (i + 1) bad) := by
   exact ⟨by rw [acS, if_pos hg], by rw [acI, if_pos hg], by rw [acB, if_pos hg]⟩
  have Ha : Hid (ahd s i bad = sign) := by show _ = _; simpa [acGo] using hg
  obtain ⟨c0, c1, c2, -, -, -, -, hfz⟩ := hp.cells
  have hf1 := hfz 1
  clear hfz
  go_enter Tryz.func49, Tryz.ntmps49
  go_wp2_with fail
  refine (ahead_any _ b s i bad v3 v4 v5 v6 hp).mono ?_
  rintro e w1 ⟨rfl, n, rfl⟩
  rw [Ha.out]
  go_wp2_with fail
  refine (take_at _ b s 48 57 48 57 rfl rfl (i + 1) bad v3 v4 v5 v6 (by exact Blk.set hp 1 _) (by omega)).mono ?_
  rintro e w2 ⟨rfl, hp2, hf2⟩
  have hb1 := tkI_bd s 48 57 (i + 1) bad (by omega)
  go_wp2_with fail
  refine (digits_any _ b s _ _ v3 v4 v5 v6 hp2 hs hb1.2).mono ?_
  rintro e w3 ⟨rfl, hp3, hf3⟩
  have hb2 := dgI_bd s (tkI s 48 57 (i + 1) bad) (tkB s 48 57 (i + 1) bad) hb1.2
  have hsz : (dgS s (tkI s 48 57 (i + 1) bad) (tkB s 48 57 (i + 1) bad)).size ≤ 1000000 := by rw [dgS, cut_size s _ _ hb2.1 hb2.2]; omega
  go_wp2_with fail
  go_ret
  obtain ⟨e1, e2, e3⟩ := HE.out
  refine ⟨ret_str e1.symm, by rw [e2, e3]; exact Blk.alloc hp3 _, ?_⟩
  exact Fr.allocr (Fr.thenr (Fr.thenr (S := (· = b)) (by (repeat (first | exact Fr.refl _ _ | assumption | refine Fr.drewNr ?_ _ | refine Fr.drewr ?_ | refine Fr.allocr ?_ _ | refine Fr.setCellr ?_ _ _ (by first | exact Or.inl rfl | (right; simp; done) | (right; simp; omega))))) hf2 (fun _ _ h => h)) hf3 (fun _ _ h => h)) _
 ·have hg' : acGo s sign i bad = false := by simpa using hg
  have HE : Hid (acS s sign i bad = ⟨#[]⟩ ∧ acI s sign i bad = i ∧ acB s sign i bad = bad) := by
   exact ⟨by rw [acS, if_neg hg], by rw [acI, if_neg hg], by rw [acB, if_neg hg]⟩
  have Ha : (((ahd s i bad).toNat : Int) == sign.toNat) = false := by
   simp only [acGo, beq_eq_false_iff_ne] at hg' ⊢
   intro h
   exact hg' (UInt8.toNat_inj.1 (by omega))
  clear hg hg'
  go_enter Tryz.func49, Tryz.ntmps49
  go_wp2_with fail
  refine (ahead_any _ b s i bad v3 v4 v5 v6 hp).mono ?_
  rintro e w1 ⟨rfl, n, rfl⟩
  go_wp2_with fail
  go_ret
  obtain ⟨e1, e2, e3⟩ := HE.out
  exact ⟨ret_str e1.symm, by rw [e2, e3]; exact hp, by (repeat (first | exact Fr.refl _ _ | assumption | refine Fr.drewNr ?_ _ | refine Fr.drewr ?_ | refine Fr.allocr ?_ _ | refine Fr.setCellr ?_ _ _ (by first | exact Or.inl rfl | (right; simp; done) | (right; simp; omega))))⟩
end Go.Proofs.YtmolmbeeoecnfaaGreatDoor
