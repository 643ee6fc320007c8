/- Own work: Data. -/
import Derived.Test.YtmolmbeeoecnfaaGreatDoorC02
import Derived.Test.YtmolmbeeoecnfaaGreatDoorC03
/- Own work: what the document's reader keeps in memory, as data. -/
namespace Go.Proofs.YtmolmbeeoecnfaaGreatDoor
open Go.RowKit Go.BigFrame
set_option linter.unusedVariables false
set_option linter.unusedSimpArgs false

structure StR where
 name : UInt8
 at_ : Nat
 parent : Int
 depth : Nat
 kind : Nat
 end_ : Nat
 enter : ByteArray
 leave : ByteArray
structure TrR where
 from_ : Nat
 event : UInt8
 conds : ByteArray
 target : UInt8
 mark : ByteArray
 acts : ByteArray
structure RfR where
 name : UInt8
 at_ : Nat

def StR.cells (x : StR) : List Value := [.int .u8 x.name.toNat, .int .i64 x.at_, .int .i64 x.parent, .int .i64 x.depth, .int .i64 x.kind, .int .i64 x.end_, .string x.enter, .string x.leave]
def TrR.cells (x : TrR) : List Value := [.int .i64 x.from_, .int .u8 x.event.toNat, .string x.conds, .int .u8 x.target.toNat, .string x.mark, .string x.acts]
def RfR.cells (x : RfR) : List Value := [.int .u8 x.name.toNat, .int .i64 x.at_]

structure Pn where
 i : Nat
 bad : Int
 st : List StR
 tr : List TrR
 re : List RfR
 ma : List RfR

structure Vs where
 v3 : Value
 v4 : Value
 v5 : Value
 v6 : Value

def Ap (u v : Value) : Prop := ∀ k, u.ownBlock = some k → v.ownBlock ≠ some k
theorem Ap.symm {u v : Value} (h : Ap u v) : Ap v u := fun k h1 h2 => h k h2 h1
theorem Ap.turn {u v : Value} {g n c : Nat} {w : World} (h : Ap u v) (hl : ∀ k, v.ownBlock = some k → k < w.heap.size) (hg : u.ownBlock = some g ∨ w.heap.size ≤ g) : Ap (.slice (some ⟨g, 0, none⟩) n c) v := by
 intro k hk hv
 simp only [Value.ownBlock, Option.some.injEq] at hk
 subst hk
 rcases hg with hg | hg
 ·exact h _ hg hv
 ·have := hl _ hv; omega

def OwnS (b : Nat) (vs : Vs) (k : Nat) : Prop := k = b ∨ vs.v3.ownBlock = some k ∨ vs.v4.ownBlock = some k ∨ vs.v5.ownBlock = some k ∨ vs.v6.ownBlock = some k

structure PenV (w : World) (b : Nat) (s : ByteArray) (p : Pn) (vs : Vs) : Prop where
 blk : PenB w b s p.i p.bad vs.v3 vs.v4 vs.v5 vs.v6
 r3 : w.ownsRow 0 104 8 vs.v3 p.st.length (p.st.flatMap StR.cells)
 r4 : w.ownsRow 0 96 6 vs.v4 p.tr.length (p.tr.flatMap TrR.cells)
 r5 : w.ownsRow 0 138 2 vs.v5 p.re.length (p.re.flatMap RfR.cells)
 r6 : w.ownsRow 0 138 2 vs.v6 p.ma.length (p.ma.flatMap RfR.cells)
 n3 : vs.v3.ownBlock ≠ some b
 n4 : vs.v4.ownBlock ≠ some b
 n5 : vs.v5.ownBlock ≠ some b
 n6 : vs.v6.ownBlock ≠ some b
 d34 : Ap vs.v3 vs.v4
 d35 : Ap vs.v3 vs.v5
 d36 : Ap vs.v3 vs.v6
 d45 : Ap vs.v4 vs.v5
 d46 : Ap vs.v4 vs.v6
 d56 : Ap vs.v5 vs.v6

structure Ev (b : Nat) (vs vs' : Vs) (w w' : World) : Prop where
 fr : Fr (OwnS b vs) w w'
 own : ∀ k, k < w.heap.size → OwnS b vs' k → OwnS b vs k

theorem Ev.refl (b : Nat) (vs : Vs) (w : World) : Ev b vs vs w w := ⟨Fr.refl _ _, fun _ _ h => h⟩
theorem Ev.trans {b : Nat} {v1 v2 v3 : Vs} {w1 w2 w3 : World} (h : Ev b v1 v2 w1 w2) (k : Ev b v2 v3 w2 w3) : Ev b v1 v3 w1 w3 :=
 ⟨h.fr.thenr k.fr (fun i hi ho => h.own i hi ho), fun i hi ho => h.own i hi (k.own i (Nat.lt_of_lt_of_le hi h.fr.size) ho)⟩
theorem Ev.of_fr {b : Nat} {vs : Vs} {w w' : World} (h : Fr (· = b) w w') : Ev b vs vs w w' := ⟨h.mono (fun _ _ e => Or.inl e), fun _ _ h => h⟩
theorem Ev.alloc {b : Nat} {vs vs' : Vs} {w w' : World} (h : Ev b vs vs' w w') (o : Obj) : Ev b vs vs' w (w'.alloc o) := ⟨h.fr.allocr o, h.own⟩
theorem Ev.drewN {b : Nat} {vs vs' : Vs} {w w' : World} (h : Ev b vs vs' w w') (n : Nat) : Ev b vs vs' w (w'.drewN n) := ⟨h.fr.drewNr n, h.own⟩
theorem Ev.drew {b : Nat} {vs vs' : Vs} {w w' : World} (h : Ev b vs vs' w w') : Ev b vs vs' w w'.drew := ⟨h.fr.drewr, h.own⟩

theorem Ev.setNew {b : Nat} {vs vs' : Vs} {w w' : World} (h : Ev b vs vs' w w') (q : Addr) (v : Value) (hq : w.heap.size ≤ q.block) : Ev b vs vs' w (w'.setCell q v) := ⟨h.fr.setCellr q v (Or.inr hq), h.own⟩
theorem Ev.setOwn {b : Nat} {vs vs' : Vs} {w w' : World} (h : Ev b vs vs' w w') (o : Nat) (v : Value) : Ev b vs vs' w (w'.setCell ⟨b, o, none⟩ v) := ⟨h.fr.setCellr ⟨b, o, none⟩ v (Or.inl (Or.inl rfl)), h.own⟩
theorem Ev.size {b : Nat} {vs vs' : Vs} {w w' : World} (h : Ev b vs vs' w w') : w.heap.size ≤ w'.heap.size := h.fr.size
theorem Ev.keeps {b : Nat} {vs vs' : Vs} {w w' : World} (h : Ev b vs vs' w w') {q : Nat} {c : Array Value} {e : TypeId} (hq : Blk w q c e) (hn : ¬ OwnS b vs q) : Blk w' q c e ∧ ¬ OwnS b vs' q :=
 ⟨hq.fr h.fr hn, fun ho => hn (h.own q hq.lt ho)⟩

theorem row_fr {w w' : World} {S : Nat → Prop} {e : TypeId} {sz : Nat} {v : Value} {n : Nat} {xs : List Value} (h : w.ownsRow 0 e sz v n xs) (f : Fr S w w') (hn : ∀ k, v.ownBlock = some k → ¬ S k) : w'.ownsRow 0 e sz v n xs := by
 refine ⟨h.1, ?_⟩
 rcases h.2 with hn' | ⟨g, cap, cur, rfl, hb, hg, rest⟩
 ·exact .inl hn'
 ·exact .inr ⟨g, cap, cur, rfl, hb, (f.block g (Array.getElem?_eq_some_iff.1 hg).1 (hn g rfl)).trans hg, rest⟩

section
variable {w : World} {b : Nat} {s : ByteArray} {p : Pn} {vs : Vs}

theorem PenV.fr {S : Nat → Prop} {w' : World} (h : PenV w b s p vs) (f : Fr S w w') (hS : ∀ k, OwnS b vs k → ¬ S k) : PenV w' b s p vs where
 blk := Blk.fr h.blk f (hS b (Or.inl rfl))
 r3 := row_fr h.r3 f (fun k hk => hS k (by unfold OwnS; simp [hk]))
 r4 := row_fr h.r4 f (fun k hk => hS k (by unfold OwnS; simp [hk]))
 r5 := row_fr h.r5 f (fun k hk => hS k (by unfold OwnS; simp [hk]))
 r6 := row_fr h.r6 f (fun k hk => hS k (by unfold OwnS; simp [hk]))
 n3 := h.n3
 n4 := h.n4
 n5 := h.n5
 n6 := h.n6
 d34 := h.d34
 d35 := h.d35
 d36 := h.d36
 d45 := h.d45
 d46 := h.d46
 d56 := h.d56
theorem PenV.alloc (h : PenV w b s p vs) (o : Obj) : PenV (w.alloc o) b s p vs := h.fr (Fr.alloc (fun _ => False) w o) (fun _ _ h => h)
theorem PenV.drewN (h : PenV w b s p vs) (n : Nat) : PenV (w.drewN n) b s p vs := h.fr (Fr.drewN (fun _ => False) w n) (fun _ _ h => h)
theorem PenV.setOther (h : PenV w b s p vs) (q : Addr) (v : Value) (hq : ¬ OwnS b vs q.block) : PenV (w.setCell q v) b s p vs := h.fr (Fr.setCell (· = q.block) w q v rfl) (fun k hk e => hq (e ▸ hk))
theorem PenV.own_lt (h : PenV w b s p vs) {k : Nat} (hk : OwnS b vs k) : k < w.heap.size := by
 rcases hk with rfl | hk | hk | hk | hk
 ·exact Blk.lt h.blk
 ·exact (h.r3.lt k hk).2
 ·exact (h.r4.lt k hk).2
 ·exact (h.r5.lt k hk).2
 ·exact (h.r6.lt k hk).2
theorem PenV.drew (h : PenV w b s p vs) : PenV w.drew b s p vs := h.fr (Fr.drew (fun _ => False) w) (fun _ _ h => h)

theorem PenV.move {w' : World} {i : Nat} {bad : Int} (h : PenV w b s p vs) (hb : PenB w' b s i bad vs.v3 vs.v4 vs.v5 vs.v6) (f : Fr (· = b) w w') : PenV w' b s { p with i := i, bad := bad } vs where
 blk := hb
 r3 := row_fr h.r3 f (fun k hk e => h.n3 (by rw [hk, e]))
 r4 := row_fr h.r4 f (fun k hk e => h.n4 (by rw [hk, e]))
 r5 := row_fr h.r5 f (fun k hk e => h.n5 (by rw [hk, e]))
 r6 := row_fr h.r6 f (fun k hk e => h.n6 (by rw [hk, e]))
 n3 := h.n3
 n4 := h.n4
 n5 := h.n5
 n6 := h.n6
 d34 := h.d34
 d35 := h.d35
 d36 := h.d36
 d45 := h.d45
 d46 := h.d46
 d56 := h.d56
theorem PenV.step (h : PenV w b s p vs) (i : Nat) (hi : i = p.i + 1) : PenV (w.setCell ⟨b, 1, none⟩ (.int .i64 ((p.i : Int) + 1))) b s { p with i := i } vs := by
 subst hi; exact h.move (Blk.set h.blk 1 _) (Fr.setCell _ _ _ _ rfl)
theorem PenV.lt3 (h : PenV w b s p vs) : ∀ k, vs.v3.ownBlock = some k → k < w.heap.size := fun k hk => (h.r3.lt k hk).2
theorem PenV.lt4 (h : PenV w b s p vs) : ∀ k, vs.v4.ownBlock = some k → k < w.heap.size := fun k hk => (h.r4.lt k hk).2
theorem PenV.lt5 (h : PenV w b s p vs) : ∀ k, vs.v5.ownBlock = some k → k < w.heap.size := fun k hk => (h.r5.lt k hk).2
theorem PenV.lt6 (h : PenV w b s p vs) : ∀ k, vs.v6.ownBlock = some k → k < w.heap.size := fun k hk => (h.r6.lt k hk).2

theorem PenV.push3 {w1 : World} {g c : Nat} (h : PenV w b s p vs) (x : StR) (hr : w1.ownsRow 0 104 8 (.slice (some ⟨g, 0, none⟩) (p.st.length + 1) c) (p.st.length + 1) (p.st.flatMap StR.cells ++ x.cells))
  (hg : w.grownBy w1 vs.v3.ownBlock) (hgo : vs.v3.ownBlock = some g ∨ w.heap.size ≤ g) :
  PenV (w1.setCell ⟨b, 3, none⟩ (.slice (some ⟨g, 0, none⟩) (p.st.length + 1) c)) b s { p with st := p.st ++ [x] } { vs with v3 := .slice (some ⟨g, 0, none⟩) (p.st.length + 1) c } ∧
  Ev b vs { vs with v3 := .slice (some ⟨g, 0, none⟩) (p.st.length + 1) c } w (w1.setCell ⟨b, 3, none⟩ (.slice (some ⟨g, 0, none⟩) (p.st.length + 1) c)) := by
 have hbl := Blk.lt h.blk
 have hgb : g ≠ b := by rcases hgo with e | e; exact fun e' => h.n3 (by rw [e, e']); omega
 have f1 : Fr (fun j => vs.v3.ownBlock = some j) w w1 := Fr.grown _ hg (fun _ e => e)
 have b1 := Blk.fr h.blk f1 h.n3
 have f2 : Fr (· = b) w1 (w1.setCell ⟨b, 3, none⟩ (.slice (some ⟨g, 0, none⟩) (p.st.length + 1) c)) := Fr.setCell _ _ _ _ rfl
 have f12 := f1.trans f2 (U := fun j => vs.v3.ownBlock = some j ∨ j = b) (fun _ _ h => Or.inl h) (fun _ _ h => Or.inr h)
 refine ⟨{ blk := Blk.set b1 3 _, r3 := (by simpa using row_fr hr f2 (fun j hj e => hgb (by simp [Value.ownBlock] at hj; omega))), r4 := row_fr h.r4 f12 (fun q hq e => e.elim (fun e => h.d34 q e hq) (fun e => h.n4 (by rw [hq, e]))), r5 := row_fr h.r5 f12 (fun q hq e => e.elim (fun e => h.d35 q e hq) (fun e => h.n5 (by rw [hq, e]))), r6 := row_fr h.r6 f12 (fun q hq e => e.elim (fun e => h.d36 q e hq) (fun e => h.n6 (by rw [hq, e]))), n3 := (by simp [Value.ownBlock]; exact hgb), n4 := h.n4, n5 := h.n5, n6 := h.n6, d34 := Ap.turn h.d34 h.lt4 hgo, d35 := Ap.turn h.d35 h.lt5 hgo, d36 := Ap.turn h.d36 h.lt6 hgo, d45 := h.d45, d46 := h.d46, d56 := h.d56 }, ⟨f12.mono (fun j _ e => by unfold OwnS; rcases e with e | e <;> simp [e]), ?_⟩⟩
 intro j hj ho
 unfold OwnS at *
 rcases ho with ho | ho | ho | ho | ho
 ·exact Or.inl ho
 ·simp only [Value.ownBlock, Option.some.injEq] at ho; subst ho; rcases hgo with e | e
  ·exact Or.inr (Or.inl e)
  ·omega
 ·exact Or.inr (Or.inr (Or.inl ho))
 ·exact Or.inr (Or.inr (Or.inr (Or.inl ho)))
 ·exact Or.inr (Or.inr (Or.inr (Or.inr ho)))

theorem PenV.push4 {w1 : World} {g c : Nat} (h : PenV w b s p vs) (x : TrR) (hr : w1.ownsRow 0 96 6 (.slice (some ⟨g, 0, none⟩) (p.tr.length + 1) c) (p.tr.length + 1) (p.tr.flatMap TrR.cells ++ x.cells))
  (hg : w.grownBy w1 vs.v4.ownBlock) (hgo : vs.v4.ownBlock = some g ∨ w.heap.size ≤ g) :
  PenV (w1.setCell ⟨b, 4, none⟩ (.slice (some ⟨g, 0, none⟩) (p.tr.length + 1) c)) b s { p with tr := p.tr ++ [x] } { vs with v4 := .slice (some ⟨g, 0, none⟩) (p.tr.length + 1) c } ∧
  Ev b vs { vs with v4 := .slice (some ⟨g, 0, none⟩) (p.tr.length + 1) c } w (w1.setCell ⟨b, 4, none⟩ (.slice (some ⟨g, 0, none⟩) (p.tr.length + 1) c)) := by
 have hbl := Blk.lt h.blk
 have hgb : g ≠ b := by rcases hgo with e | e; exact fun e' => h.n4 (by rw [e, e']); omega
 have f1 : Fr (fun j => vs.v4.ownBlock = some j) w w1 := Fr.grown _ hg (fun _ e => e)
 have b1 := Blk.fr h.blk f1 h.n4
 have f2 : Fr (· = b) w1 (w1.setCell ⟨b, 4, none⟩ (.slice (some ⟨g, 0, none⟩) (p.tr.length + 1) c)) := Fr.setCell _ _ _ _ rfl
 have f12 := f1.trans f2 (U := fun j => vs.v4.ownBlock = some j ∨ j = b) (fun _ _ h => Or.inl h) (fun _ _ h => Or.inr h)
 refine ⟨{ blk := Blk.set b1 4 _, r4 := (by simpa using row_fr hr f2 (fun j hj e => hgb (by simp [Value.ownBlock] at hj; omega))), r3 := row_fr h.r3 f12 (fun q hq e => e.elim (fun e => h.d34 q hq e) (fun e => h.n3 (by rw [hq, e]))), r5 := row_fr h.r5 f12 (fun q hq e => e.elim (fun e => h.d45 q e hq) (fun e => h.n5 (by rw [hq, e]))), r6 := row_fr h.r6 f12 (fun q hq e => e.elim (fun e => h.d46 q e hq) (fun e => h.n6 (by rw [hq, e]))), n4 := (by simp [Value.ownBlock]; exact hgb), n3 := h.n3, n5 := h.n5, n6 := h.n6, d34 := (Ap.turn h.d34.symm h.lt3 hgo).symm, d35 := h.d35, d36 := h.d36, d45 := Ap.turn h.d45 h.lt5 hgo, d46 := Ap.turn h.d46 h.lt6 hgo, d56 := h.d56 }, ⟨f12.mono (fun j _ e => by unfold OwnS; rcases e with e | e <;> simp [e]), ?_⟩⟩
 intro j hj ho
 unfold OwnS at *
 rcases ho with ho | ho | ho | ho | ho
 ·exact Or.inl ho
 ·exact Or.inr (Or.inl ho)
 ·simp only [Value.ownBlock, Option.some.injEq] at ho; subst ho; rcases hgo with e | e
  ·exact Or.inr (Or.inr (Or.inl e))
  ·omega
 ·exact Or.inr (Or.inr (Or.inr (Or.inl ho)))
 ·exact Or.inr (Or.inr (Or.inr (Or.inr ho)))

theorem PenV.push5 {w1 : World} {g c : Nat} (h : PenV w b s p vs) (x : RfR) (hr : w1.ownsRow 0 138 2 (.slice (some ⟨g, 0, none⟩) (p.re.length + 1) c) (p.re.length + 1) (p.re.flatMap RfR.cells ++ x.cells))
  (hg : w.grownBy w1 vs.v5.ownBlock) (hgo : vs.v5.ownBlock = some g ∨ w.heap.size ≤ g) :
  PenV (w1.setCell ⟨b, 5, none⟩ (.slice (some ⟨g, 0, none⟩) (p.re.length + 1) c)) b s { p with re := p.re ++ [x] } { vs with v5 := .slice (some ⟨g, 0, none⟩) (p.re.length + 1) c } ∧
  Ev b vs { vs with v5 := .slice (some ⟨g, 0, none⟩) (p.re.length + 1) c } w (w1.setCell ⟨b, 5, none⟩ (.slice (some ⟨g, 0, none⟩) (p.re.length + 1) c)) := by
 have hbl := Blk.lt h.blk
 have hgb : g ≠ b := by rcases hgo with e | e; exact fun e' => h.n5 (by rw [e, e']); omega
 have f1 : Fr (fun j => vs.v5.ownBlock = some j) w w1 := Fr.grown _ hg (fun _ e => e)
 have b1 := Blk.fr h.blk f1 h.n5
 have f2 : Fr (· = b) w1 (w1.setCell ⟨b, 5, none⟩ (.slice (some ⟨g, 0, none⟩) (p.re.length + 1) c)) := Fr.setCell _ _ _ _ rfl
 have f12 := f1.trans f2 (U := fun j => vs.v5.ownBlock = some j ∨ j = b) (fun _ _ h => Or.inl h) (fun _ _ h => Or.inr h)
 refine ⟨{ blk := Blk.set b1 5 _, r5 := (by simpa using row_fr hr f2 (fun j hj e => hgb (by simp [Value.ownBlock] at hj; omega))), r3 := row_fr h.r3 f12 (fun q hq e => e.elim (fun e => h.d35 q hq e) (fun e => h.n3 (by rw [hq, e]))), r4 := row_fr h.r4 f12 (fun q hq e => e.elim (fun e => h.d45 q hq e) (fun e => h.n4 (by rw [hq, e]))), r6 := row_fr h.r6 f12 (fun q hq e => e.elim (fun e => h.d56 q e hq) (fun e => h.n6 (by rw [hq, e]))), n5 := (by simp [Value.ownBlock]; exact hgb), n3 := h.n3, n4 := h.n4, n6 := h.n6, d34 := h.d34, d35 := (Ap.turn h.d35.symm h.lt3 hgo).symm, d36 := h.d36, d45 := (Ap.turn h.d45.symm h.lt4 hgo).symm, d46 := h.d46, d56 := Ap.turn h.d56 h.lt6 hgo }, ⟨f12.mono (fun j _ e => by unfold OwnS; rcases e with e | e <;> simp [e]), ?_⟩⟩
 intro j hj ho
 unfold OwnS at *
 rcases ho with ho | ho | ho | ho | ho
 ·exact Or.inl ho
 ·exact Or.inr (Or.inl ho)
 ·exact Or.inr (Or.inr (Or.inl ho))
 ·simp only [Value.ownBlock, Option.some.injEq] at ho; subst ho; rcases hgo with e | e
  ·exact Or.inr (Or.inr (Or.inr (Or.inl e)))
  ·omega
 ·exact Or.inr (Or.inr (Or.inr (Or.inr ho)))

theorem PenV.push6 {w1 : World} {g c : Nat} (h : PenV w b s p vs) (x : RfR) (hr : w1.ownsRow 0 138 2 (.slice (some ⟨g, 0, none⟩) (p.ma.length + 1) c) (p.ma.length + 1) (p.ma.flatMap RfR.cells ++ x.cells))
  (hg : w.grownBy w1 vs.v6.ownBlock) (hgo : vs.v6.ownBlock = some g ∨ w.heap.size ≤ g) :
  PenV (w1.setCell ⟨b, 6, none⟩ (.slice (some ⟨g, 0, none⟩) (p.ma.length + 1) c)) b s { p with ma := p.ma ++ [x] } { vs with v6 := .slice (some ⟨g, 0, none⟩) (p.ma.length + 1) c } ∧
  Ev b vs { vs with v6 := .slice (some ⟨g, 0, none⟩) (p.ma.length + 1) c } w (w1.setCell ⟨b, 6, none⟩ (.slice (some ⟨g, 0, none⟩) (p.ma.length + 1) c)) := by
 have hbl := Blk.lt h.blk
 have hgb : g ≠ b := by rcases hgo with e | e; exact fun e' => h.n6 (by rw [e, e']); omega
 have f1 : Fr (fun j => vs.v6.ownBlock = some j) w w1 := Fr.grown _ hg (fun _ e => e)
 have b1 := Blk.fr h.blk f1 h.n6
 have f2 : Fr (· = b) w1 (w1.setCell ⟨b, 6, none⟩ (.slice (some ⟨g, 0, none⟩) (p.ma.length + 1) c)) := Fr.setCell _ _ _ _ rfl
 have f12 := f1.trans f2 (U := fun j => vs.v6.ownBlock = some j ∨ j = b) (fun _ _ h => Or.inl h) (fun _ _ h => Or.inr h)
 refine ⟨{ blk := Blk.set b1 6 _, r6 := (by simpa using row_fr hr f2 (fun j hj e => hgb (by simp [Value.ownBlock] at hj; omega))), r3 := row_fr h.r3 f12 (fun q hq e => e.elim (fun e => h.d36 q hq e) (fun e => h.n3 (by rw [hq, e]))), r4 := row_fr h.r4 f12 (fun q hq e => e.elim (fun e => h.d46 q hq e) (fun e => h.n4 (by rw [hq, e]))), r5 := row_fr h.r5 f12 (fun q hq e => e.elim (fun e => h.d56 q hq e) (fun e => h.n5 (by rw [hq, e]))), n6 := (by simp [Value.ownBlock]; exact hgb), n3 := h.n3, n4 := h.n4, n5 := h.n5, d34 := h.d34, d35 := h.d35, d36 := (Ap.turn h.d36.symm h.lt3 hgo).symm, d45 := h.d45, d46 := (Ap.turn h.d46.symm h.lt4 hgo).symm, d56 := (Ap.turn h.d56.symm h.lt5 hgo).symm }, ⟨f12.mono (fun j _ e => by unfold OwnS; rcases e with e | e <;> simp [e]), ?_⟩⟩
 intro j hj ho
 unfold OwnS at *
 rcases ho with ho | ho | ho | ho | ho
 ·exact Or.inl ho
 ·exact Or.inr (Or.inl ho)
 ·exact Or.inr (Or.inr (Or.inl ho))
 ·exact Or.inr (Or.inr (Or.inr (Or.inl ho)))
 ·simp only [Value.ownBlock, Option.some.injEq] at ho; subst ho; rcases hgo with e | e
  ·exact Or.inr (Or.inr (Or.inr (Or.inr e)))
  ·omega

theorem PenV.after5 {w1 : World} (h : PenV w b s p vs) (hg : w.grownBy w1 vs.v5.ownBlock) : w1.cell? ⟨b, 5, none⟩ = some vs.v5 ∧ w1.frozen? ⟨b, 5, none⟩ = false := by
 have b1 := Blk.fr h.blk (Fr.grown (fun j => vs.v5.ownBlock = some j) hg (fun _ e => e)) h.n5
 exact ⟨by rw [b1.cell]; rfl, b1.frozen _⟩

end

end Go.Proofs.YtmolmbeeoecnfaaGreatDoor
