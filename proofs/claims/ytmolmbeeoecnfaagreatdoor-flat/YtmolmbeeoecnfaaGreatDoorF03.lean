/- Own work: Data, RData. -/
import Derived.Test.YtmolmbeeoecnfaaGreatDoorF01
import Derived.Test.YtmolmbeeoecnfaaGreatDoorF02
/- Own work: what the document's reader keeps in memory, as data. -/
namespace Go.Proofs.YtmolmbeeoecnfaaGreatDoor
open Go.RowKit Go.BigFrame
set_option linter.unusedVariables false
set_option linter.unusedSimpArgs false

structure StR where
 name : UInt8
 at_ : Nat
 parent : Int
 depth : Nat
 kind : Nat
 end_ : Nat
 enter : ByteArray
 leave : ByteArray
structure TrR where
 from_ : Nat
 event : UInt8
 conds : ByteArray
 target : UInt8
 mark : ByteArray
 acts : ByteArray
structure RfR where
 name : UInt8
 at_ : Nat

def StR.cells (x : StR) : List Value := [.int .u8 x.name.toNat, .int .i64 x.at_, .int .i64 x.parent, .int .i64 x.depth, .int .i64 x.kind, .int .i64 x.end_, .string x.enter, .string x.leave]
def TrR.cells (x : TrR) : List Value := [.int .i64 x.from_, .int .u8 x.event.toNat, .string x.conds, .int .u8 x.target.toNat, .string x.mark, .string x.acts]
def RfR.cells (x : RfR) : List Value := [.int .u8 x.name.toNat, .int .i64 x.at_]

structure Pn where
 i : Nat
 bad : Int
 st : List StR
 tr : List TrR
 re : List RfR
 ma : List RfR

structure Vs where
 v3 : Value
 v4 : Value
 v5 : Value
 v6 : Value

def Ap (u v : Value) : Prop := ∀ k, u.ownBlock = some k → v.ownBlock ≠ some k
theorem Ap.symm {u v : Value} (h : Ap u v) : Ap v u := fun k h1 h2 => h k h2 h1
theorem Ap.turn {u v : Value} {g n c : Nat} {w : World} (h : Ap u v) (hl : ∀ k, v.ownBlock = some k → k < w.heap.size) (hg : u.ownBlock = some g ∨ w.heap.size ≤ g) : Ap (.slice (some ⟨g, 0, none⟩) n c) v := by
 intro k hk hv
 simp only [Value.ownBlock, Option.some.injEq] at hk
 subst hk
 rcases hg with hg | hg
 ·exact h _ hg hv
 ·have := hl _ hv; omega

def OwnS (b : Nat) (vs : Vs) (k : Nat) : Prop := k = b ∨ vs.v3.ownBlock = some k ∨ vs.v4.ownBlock = some k ∨ vs.v5.ownBlock = some k ∨ vs.v6.ownBlock = some k

structure PenV (w : World) (b : Nat) (s : ByteArray) (p : Pn) (vs : Vs) : Prop where
 blk : PenB w b s p.i p.bad vs.v3 vs.v4 vs.v5 vs.v6
 r3 : w.ownsRow 0 104 8 vs.v3 p.st.length (p.st.flatMap StR.cells)
 r4 : w.ownsRow 0 96 6 vs.v4 p.tr.length (p.tr.flatMap TrR.cells)
 r5 : w.ownsRow 0 138 2 vs.v5 p.re.length (p.re.flatMap RfR.cells)
 r6 : w.ownsRow 0 138 2 vs.v6 p.ma.length (p.ma.flatMap RfR.cells)
 n3 : vs.v3.ownBlock ≠ some b
 n4 : vs.v4.ownBlock ≠ some b
 n5 : vs.v5.ownBlock ≠ some b
 n6 : vs.v6.ownBlock ≠ some b
 d34 : Ap vs.v3 vs.v4
 d35 : Ap vs.v3 vs.v5
 d36 : Ap vs.v3 vs.v6
 d45 : Ap vs.v4 vs.v5
 d46 : Ap vs.v4 vs.v6
 d56 : Ap vs.v5 vs.v6

structure Ev (b : Nat) (vs vs' : Vs) (w w' : World) : Prop where
 fr : Fr (OwnS b vs) w w'
 own : ∀ k, k < w.heap.size → OwnS b vs' k → OwnS b vs k

theorem Ev.refl (b : Nat) (vs : Vs) (w : World) : Ev b vs vs w w := ⟨Fr.refl _ _, fun _ _ h => h⟩
theorem Ev.trans {b : Nat} {v1 v2 v3 : Vs} {w1 w2 w3 : World} (h : Ev b v1 v2 w1 w2) (k : Ev b v2 v3 w2 w3) : Ev b v1 v3 w1 w3 :=
 ⟨h.fr.thenr k.fr (fun i hi ho => h.own i hi ho), fun i hi ho => h.own i hi (k.own i (Nat.lt_of_lt_of_le hi h.fr.size) ho)⟩
theorem Ev.of_fr {b : Nat} {vs : Vs} {w w' : World} (h : Fr (· = b) w w') : Ev b vs vs w w' := ⟨h.mono (fun _ _ e => Or.inl e), fun _ _ h => h⟩
theorem Ev.alloc {b : Nat} {vs vs' : Vs} {w w' : World} (h : Ev b vs vs' w w') (o : Obj) : Ev b vs vs' w (w'.alloc o) := ⟨h.fr.allocr o, h.own⟩
theorem Ev.drewN {b : Nat} {vs vs' : Vs} {w w' : World} (h : Ev b vs vs' w w') (n : Nat) : Ev b vs vs' w (w'.drewN n) := ⟨h.fr.drewNr n, h.own⟩
theorem Ev.drew {b : Nat} {vs vs' : Vs} {w w' : World} (h : Ev b vs vs' w w') : Ev b vs vs' w w'.drew := ⟨h.fr.drewr, h.own⟩

theorem Ev.setNew {b : Nat} {vs vs' : Vs} {w w' : World} (h : Ev b vs vs' w w') (q : Addr) (v : Value) (hq : w.heap.size ≤ q.block) : Ev b vs vs' w (w'.setCell q v) := ⟨h.fr.setCellr q v (Or.inr hq), h.own⟩
theorem Ev.setOwn {b : Nat} {vs vs' : Vs} {w w' : World} (h : Ev b vs vs' w w') (o : Nat) (v : Value) : Ev b vs vs' w (w'.setCell ⟨b, o, none⟩ v) := ⟨h.fr.setCellr ⟨b, o, none⟩ v (Or.inl (Or.inl rfl)), h.own⟩
theorem Ev.size {b : Nat} {vs vs' : Vs} {w w' : World} (h : Ev b vs vs' w w') : w.heap.size ≤ w'.heap.size := h.fr.size
theorem Ev.keeps {b : Nat} {vs vs' : Vs} {w w' : World} (h : Ev b vs vs' w w') {q : Nat} {c : Array Value} {e : TypeId} (hq : Blk w q c e) (hn : ¬ OwnS b vs q) : Blk w' q c e ∧ ¬ OwnS b vs' q :=
 ⟨hq.fr h.fr hn, fun ho => hn (h.own q hq.lt ho)⟩

theorem row_fr {w w' : World} {S : Nat → Prop} {e : TypeId} {sz : Nat} {v : Value} {n : Nat} {xs : List Value} (h : w.ownsRow 0 e sz v n xs) (f : Fr S w w') (hn : ∀ k, v.ownBlock = some k → ¬ S k) : w'.ownsRow 0 e sz v n xs := by
 refine ⟨h.1, ?_⟩
 rcases h.2 with hn' | ⟨g, cap, cur, rfl, hb, hg, rest⟩
 ·exact .inl hn'
 ·exact .inr ⟨g, cap, cur, rfl, hb, (f.block g (Array.getElem?_eq_some_iff.1 hg).1 (hn g rfl)).trans hg, rest⟩

section
variable {w : World} {b : Nat} {s : ByteArray} {p : Pn} {vs : Vs}

theorem PenV.fr {S : Nat → Prop} {w' : World} (h : PenV w b s p vs) (f : Fr S w w') (hS : ∀ k, OwnS b vs k → ¬ S k) : PenV w' b s p vs where
 blk := Blk.fr h.blk f (hS b (Or.inl rfl))
 r3 := row_fr h.r3 f (fun k hk => hS k (by unfold OwnS; simp [hk]))
 r4 := row_fr h.r4 f (fun k hk => hS k (by unfold OwnS; simp [hk]))
 r5 := row_fr h.r5 f (fun k hk => hS k (by unfold OwnS; simp [hk]))
 r6 := row_fr h.r6 f (fun k hk => hS k (by unfold OwnS; simp [hk]))
 n3 := h.n3
 n4 := h.n4
 n5 := h.n5
 n6 := h.n6
 d34 := h.d34
 d35 := h.d35
 d36 := h.d36
 d45 := h.d45
 d46 := h.d46
 d56 := h.d56
theorem PenV.alloc (h : PenV w b s p vs) (o : Obj) : PenV (w.alloc o) b s p vs := h.fr (Fr.alloc (fun _ => False) w o) (fun _ _ h => h)
theorem PenV.drewN (h : PenV w b s p vs) (n : Nat) : PenV (w.drewN n) b s p vs := h.fr (Fr.drewN (fun _ => False) w n) (fun _ _ h => h)
theorem PenV.setOther (h : PenV w b s p vs) (q : Addr) (v : Value) (hq : ¬ OwnS b vs q.block) : PenV (w.setCell q v) b s p vs := h.fr (Fr.setCell (· = q.block) w q v rfl) (fun k hk e => hq (e ▸ hk))
theorem PenV.own_lt (h : PenV w b s p vs) {k : Nat} (hk : OwnS b vs k) : k < w.heap.size := by
 rcases hk with rfl | hk | hk | hk | hk
 ·exact Blk.lt h.blk
 ·exact (h.r3.lt k hk).2
 ·exact (h.r4.lt k hk).2
 ·exact (h.r5.lt k hk).2
 ·exact (h.r6.lt k hk).2
theorem PenV.drew (h : PenV w b s p vs) : PenV w.drew b s p vs := h.fr (Fr.drew (fun _ => False) w) (fun _ _ h => h)

theorem PenV.move {w' : World} {i : Nat} {bad : Int} (h : PenV w b s p vs) (hb : PenB w' b s i bad vs.v3 vs.v4 vs.v5 vs.v6) (f : Fr (· = b) w w') : PenV w' b s { p with i := i, bad := bad } vs where
 blk := hb
 r3 := row_fr h.r3 f (fun k hk e => h.n3 (by rw [hk, e]))
 r4 := row_fr h.r4 f (fun k hk e => h.n4 (by rw [hk, e]))
 r5 := row_fr h.r5 f (fun k hk e => h.n5 (by rw [hk, e]))
 r6 := row_fr h.r6 f (fun k hk e => h.n6 (by rw [hk, e]))
 n3 := h.n3
 n4 := h.n4
 n5 := h.n5
 n6 := h.n6
 d34 := h.d34
 d35 := h.d35
 d36 := h.d36
 d45 := h.d45
 d46 := h.d46
 d56 := h.d56
theorem PenV.step (h : PenV w b s p vs) (i : Nat) (hi : i = p.i + 1) : PenV (w.setCell ⟨b, 1, none⟩ (.int .i64 ((p.i : Int) + 1))) b s { p with i := i } vs := by
 subst hi; exact h.move (Blk.set h.blk 1 _) (Fr.setCell _ _ _ _ rfl)
theorem PenV.lt3 (h : PenV w b s p vs) : ∀ k, vs.v3.ownBlock = some k → k < w.heap.size := fun k hk => (h.r3.lt k hk).2
theorem PenV.lt4 (h : PenV w b s p vs) : ∀ k, vs.v4.ownBlock = some k → k < w.heap.size := fun k hk => (h.r4.lt k hk).2
theorem PenV.lt5 (h : PenV w b s p vs) : ∀ k, vs.v5.ownBlock = some k → k < w.heap.size := fun k hk => (h.r5.lt k hk).2
theorem PenV.lt6 (h : PenV w b s p vs) : ∀ k, vs.v6.ownBlock = some k → k < w.heap.size := fun k hk => (h.r6.lt k hk).2

theorem PenV.push3 {w1 : World} {g c : Nat} (h : PenV w b s p vs) (x : StR) (hr : w1.ownsRow 0 104 8 (.slice (some ⟨g, 0, none⟩) (p.st.length + 1) c) (p.st.length + 1) (p.st.flatMap StR.cells ++ x.cells))
  (hg : w.grownBy w1 vs.v3.ownBlock) (hgo : vs.v3.ownBlock = some g ∨ w.heap.size ≤ g) :
  PenV (w1.setCell ⟨b, 3, none⟩ (.slice (some ⟨g, 0, none⟩) (p.st.length + 1) c)) b s { p with st := p.st ++ [x] } { vs with v3 := .slice (some ⟨g, 0, none⟩) (p.st.length + 1) c } ∧
  Ev b vs { vs with v3 := .slice (some ⟨g, 0, none⟩) (p.st.length + 1) c } w (w1.setCell ⟨b, 3, none⟩ (.slice (some ⟨g, 0, none⟩) (p.st.length + 1) c)) := by
 have hbl := Blk.lt h.blk
 have hgb : g ≠ b := by rcases hgo with e | e; exact fun e' => h.n3 (by rw [e, e']); omega
 have f1 : Fr (fun j => vs.v3.ownBlock = some j) w w1 := Fr.grown _ hg (fun _ e => e)
 have b1 := Blk.fr h.blk f1 h.n3
 have f2 : Fr (· = b) w1 (w1.setCell ⟨b, 3, none⟩ (.slice (some ⟨g, 0, none⟩) (p.st.length + 1) c)) := Fr.setCell _ _ _ _ rfl
 have f12 := f1.trans f2 (U := fun j => vs.v3.ownBlock = some j ∨ j = b) (fun _ _ h => Or.inl h) (fun _ _ h => Or.inr h)
 refine ⟨{ blk := Blk.set b1 3 _, r3 := (by simpa using row_fr hr f2 (fun j hj e => hgb (by simp [Value.ownBlock] at hj; omega))), r4 := row_fr h.r4 f12 (fun q hq e => e.elim (fun e => h.d34 q e hq) (fun e => h.n4 (by rw [hq, e]))), r5 := row_fr h.r5 f12 (fun q hq e => e.elim (fun e => h.d35 q e hq) (fun e => h.n5 (by rw [hq, e]))), r6 := row_fr h.r6 f12 (fun q hq e => e.elim (fun e => h.d36 q e hq) (fun e => h.n6 (by rw [hq, e]))), n3 := (by simp [Value.ownBlock]; exact hgb), n4 := h.n4, n5 := h.n5, n6 := h.n6, d34 := Ap.turn h.d34 h.lt4 hgo, d35 := Ap.turn h.d35 h.lt5 hgo, d36 := Ap.turn h.d36 h.lt6 hgo, d45 := h.d45, d46 := h.d46, d56 := h.d56 }, ⟨f12.mono (fun j _ e => by unfold OwnS; rcases e with e | e <;> simp [e]), ?_⟩⟩
 intro j hj ho
 unfold OwnS at *
 rcases ho with ho | ho | ho | ho | ho
 ·exact Or.inl ho
 ·simp only [Value.ownBlock, Option.some.injEq] at ho; subst ho; rcases hgo with e | e
  ·exact Or.inr (Or.inl e)
  ·omega
 ·exact Or.inr (Or.inr (Or.inl ho))
 ·exact Or.inr (Or.inr (Or.inr (Or.inl ho)))
 ·exact Or.inr (Or.inr (Or.inr (Or.inr ho)))

theorem PenV.push4 {w1 : World} {g c : Nat} (h : PenV w b s p vs) (x : TrR) (hr : w1.ownsRow 0 96 6 (.slice (some ⟨g, 0, none⟩) (p.tr.length + 1) c) (p.tr.length + 1) (p.tr.flatMap TrR.cells ++ x.cells))
  (hg : w.grownBy w1 vs.v4.ownBlock) (hgo : vs.v4.ownBlock = some g ∨ w.heap.size ≤ g) :
  PenV (w1.setCell ⟨b, 4, none⟩ (.slice (some ⟨g, 0, none⟩) (p.tr.length + 1) c)) b s { p with tr := p.tr ++ [x] } { vs with v4 := .slice (some ⟨g, 0, none⟩) (p.tr.length + 1) c } ∧
  Ev b vs { vs with v4 := .slice (some ⟨g, 0, none⟩) (p.tr.length + 1) c } w (w1.setCell ⟨b, 4, none⟩ (.slice (some ⟨g, 0, none⟩) (p.tr.length + 1) c)) := by
 have hbl := Blk.lt h.blk
 have hgb : g ≠ b := by rcases hgo with e | e; exact fun e' => h.n4 (by rw [e, e']); omega
 have f1 : Fr (fun j => vs.v4.ownBlock = some j) w w1 := Fr.grown _ hg (fun _ e => e)
 have b1 := Blk.fr h.blk f1 h.n4
 have f2 : Fr (· = b) w1 (w1.setCell ⟨b, 4, none⟩ (.slice (some ⟨g, 0, none⟩) (p.tr.length + 1) c)) := Fr.setCell _ _ _ _ rfl
 have f12 := f1.trans f2 (U := fun j => vs.v4.ownBlock = some j ∨ j = b) (fun _ _ h => Or.inl h) (fun _ _ h => Or.inr h)
 refine ⟨{ blk := Blk.set b1 4 _, r4 := (by simpa using row_fr hr f2 (fun j hj e => hgb (by simp [Value.ownBlock] at hj; omega))), r3 := row_fr h.r3 f12 (fun q hq e => e.elim (fun e => h.d34 q hq e) (fun e => h.n3 (by rw [hq, e]))), r5 := row_fr h.r5 f12 (fun q hq e => e.elim (fun e => h.d45 q e hq) (fun e => h.n5 (by rw [hq, e]))), r6 := row_fr h.r6 f12 (fun q hq e => e.elim (fun e => h.d46 q e hq) (fun e => h.n6 (by rw [hq, e]))), n4 := (by simp [Value.ownBlock]; exact hgb), n3 := h.n3, n5 := h.n5, n6 := h.n6, d34 := (Ap.turn h.d34.symm h.lt3 hgo).symm, d35 := h.d35, d36 := h.d36, d45 := Ap.turn h.d45 h.lt5 hgo, d46 := Ap.turn h.d46 h.lt6 hgo, d56 := h.d56 }, ⟨f12.mono (fun j _ e => by unfold OwnS; rcases e with e | e <;> simp [e]), ?_⟩⟩
 intro j hj ho
 unfold OwnS at *
 rcases ho with ho | ho | ho | ho | ho
 ·exact Or.inl ho
 ·exact Or.inr (Or.inl ho)
 ·simp only [Value.ownBlock, Option.some.injEq] at ho; subst ho; rcases hgo with e | e
  ·exact Or.inr (Or.inr (Or.inl e))
  ·omega
 ·exact Or.inr (Or.inr (Or.inr (Or.inl ho)))
 ·exact Or.inr (Or.inr (Or.inr (Or.inr ho)))

theorem PenV.push5 {w1 : World} {g c : Nat} (h : PenV w b s p vs) (x : RfR) (hr : w1.ownsRow 0 138 2 (.slice (some ⟨g, 0, none⟩) (p.re.length + 1) c) (p.re.length + 1) (p.re.flatMap RfR.cells ++ x.cells))
  (hg : w.grownBy w1 vs.v5.ownBlock) (hgo : vs.v5.ownBlock = some g ∨ w.heap.size ≤ g) :
  PenV (w1.setCell ⟨b, 5, none⟩ (.slice (some ⟨g, 0, none⟩) (p.re.length + 1) c)) b s { p with re := p.re ++ [x] } { vs with v5 := .slice (some ⟨g, 0, none⟩) (p.re.length + 1) c } ∧
  Ev b vs { vs with v5 := .slice (some ⟨g, 0, none⟩) (p.re.length + 1) c } w (w1.setCell ⟨b, 5, none⟩ (.slice (some ⟨g, 0, none⟩) (p.re.length + 1) c)) := by
 have hbl := Blk.lt h.blk
 have hgb : g ≠ b := by rcases hgo with e | e; exact fun e' => h.n5 (by rw [e, e']); omega
 have f1 : Fr (fun j => vs.v5.ownBlock = some j) w w1 := Fr.grown _ hg (fun _ e => e)
 have b1 := Blk.fr h.blk f1 h.n5
 have f2 : Fr (· = b) w1 (w1.setCell ⟨b, 5, none⟩ (.slice (some ⟨g, 0, none⟩) (p.re.length + 1) c)) := Fr.setCell _ _ _ _ rfl
 have f12 := f1.trans f2 (U := fun j => vs.v5.ownBlock = some j ∨ j = b) (fun _ _ h => Or.inl h) (fun _ _ h => Or.inr h)
 refine ⟨{ blk := Blk.set b1 5 _, r5 := (by simpa using row_fr hr f2 (fun j hj e => hgb (by simp [Value.ownBlock] at hj; omega))), r3 := row_fr h.r3 f12 (fun q hq e => e.elim (fun e => h.d35 q hq e) (fun e => h.n3 (by rw [hq, e]))), r4 := row_fr h.r4 f12 (fun q hq e => e.elim (fun e => h.d45 q hq e) (fun e => h.n4 (by rw [hq, e]))), r6 := row_fr h.r6 f12 (fun q hq e => e.elim (fun e => h.d56 q e hq) (fun e => h.n6 (by rw [hq, e]))), n5 := (by simp [Value.ownBlock]; exact hgb), n3 := h.n3, n4 := h.n4, n6 := h.n6, d34 := h.d34, d35 := (Ap.turn h.d35.symm h.lt3 hgo).symm, d36 := h.d36, d45 := (Ap.turn h.d45.symm h.lt4 hgo).symm, d46 := h.d46, d56 := Ap.turn h.d56 h.lt6 hgo }, ⟨f12.mono (fun j _ e => by unfold OwnS; rcases e with e | e <;> simp [e]), ?_⟩⟩
 intro j hj ho
 unfold OwnS at *
 rcases ho with ho | ho | ho | ho | ho
 ·exact Or.inl ho
 ·exact Or.inr (Or.inl ho)
 ·exact Or.inr (Or.inr (Or.inl ho))
 ·simp only [Value.ownBlock, Option.some.injEq] at ho; subst ho; rcases hgo with e | e
  ·exact Or.inr (Or.inr (Or.inr (Or.inl e)))
  ·omega
 ·exact Or.inr (Or.inr (Or.inr (Or.inr ho)))

theorem PenV.push6 {w1 : World} {g c : Nat} (h : PenV w b s p vs) (x : RfR) (hr : w1.ownsRow 0 138 2 (.slice (some ⟨g, 0, none⟩) (p.ma.length + 1) c) (p.ma.length + 1) (p.ma.flatMap RfR.cells ++ x.cells))
  (hg : w.grownBy w1 vs.v6.ownBlock) (hgo : vs.v6.ownBlock = some g ∨ w.heap.size ≤ g) :
  PenV (w1.setCell ⟨b, 6, none⟩ (.slice (some ⟨g, 0, none⟩) (p.ma.length + 1) c)) b s { p with ma := p.ma ++ [x] } { vs with v6 := .slice (some ⟨g, 0, none⟩) (p.ma.length + 1) c } ∧
  Ev b vs { vs with v6 := .slice (some ⟨g, 0, none⟩) (p.ma.length + 1) c } w (w1.setCell ⟨b, 6, none⟩ (.slice (some ⟨g, 0, none⟩) (p.ma.length + 1) c)) := by
 have hbl := Blk.lt h.blk
 have hgb : g ≠ b := by rcases hgo with e | e; exact fun e' => h.n6 (by rw [e, e']); omega
 have f1 : Fr (fun j => vs.v6.ownBlock = some j) w w1 := Fr.grown _ hg (fun _ e => e)
 have b1 := Blk.fr h.blk f1 h.n6
 have f2 : Fr (· = b) w1 (w1.setCell ⟨b, 6, none⟩ (.slice (some ⟨g, 0, none⟩) (p.ma.length + 1) c)) := Fr.setCell _ _ _ _ rfl
 have f12 := f1.trans f2 (U := fun j => vs.v6.ownBlock = some j ∨ j = b) (fun _ _ h => Or.inl h) (fun _ _ h => Or.inr h)
 refine ⟨{ blk := Blk.set b1 6 _, r6 := (by simpa using row_fr hr f2 (fun j hj e => hgb (by simp [Value.ownBlock] at hj; omega))), r3 := row_fr h.r3 f12 (fun q hq e => e.elim (fun e => h.d36 q hq e) (fun e => h.n3 (by rw [hq, e]))), r4 := row_fr h.r4 f12 (fun q hq e => e.elim (fun e => h.d46 q hq e) (fun e => h.n4 (by rw [hq, e]))), r5 := row_fr h.r5 f12 (fun q hq e => e.elim (fun e => h.d56 q hq e) (fun e => h.n5 (by rw [hq, e]))), n6 := (by simp [Value.ownBlock]; exact hgb), n3 := h.n3, n4 := h.n4, n5 := h.n5, d34 := h.d34, d35 := h.d35, d36 := (Ap.turn h.d36.symm h.lt3 hgo).symm, d45 := h.d45, d46 := (Ap.turn h.d46.symm h.lt4 hgo).symm, d56 := (Ap.turn h.d56.symm h.lt5 hgo).symm }, ⟨f12.mono (fun j _ e => by unfold OwnS; rcases e with e | e <;> simp [e]), ?_⟩⟩
 intro j hj ho
 unfold OwnS at *
 rcases ho with ho | ho | ho | ho | ho
 ·exact Or.inl ho
 ·exact Or.inr (Or.inl ho)
 ·exact Or.inr (Or.inr (Or.inl ho))
 ·exact Or.inr (Or.inr (Or.inr (Or.inl ho)))
 ·simp only [Value.ownBlock, Option.some.injEq] at ho; subst ho; rcases hgo with e | e
  ·exact Or.inr (Or.inr (Or.inr (Or.inr e)))
  ·omega

theorem PenV.after5 {w1 : World} (h : PenV w b s p vs) (hg : w.grownBy w1 vs.v5.ownBlock) : w1.cell? ⟨b, 5, none⟩ = some vs.v5 ∧ w1.frozen? ⟨b, 5, none⟩ = false := by
 have b1 := Blk.fr h.blk (Fr.grown (fun j => vs.v5.ownBlock = some j) hg (fun _ e => e)) h.n5
 exact ⟨by rw [b1.cell]; rfl, b1.frozen _⟩

end


structure CdP where
 name : UInt8
 place : Nat
 state : Int
 active : Bool
structure TrQ where
 own : Nat
 event : UInt8
 conds : List CdP
 tn : UInt8
 tp : Nat
 ts : Int
 mark : UInt8
 mp : Nat
 acts : ByteArray
structure StP where
 name : UInt8
 place : Nat
 depth : Nat
 kind : Nat
 outer : Int
 end_ : Nat
 enter : ByteArray
 leave : ByteArray
 rem : Bool
 wh : Bool
structure TrH where
 q : TrQ
 cv : Value

def CdP.cells (x : CdP) : List Value := [.int .u8 x.name.toNat, .int .i64 x.place, .int .i64 x.state, .bool x.active]
def StP.cells (x : StP) : List Value := [.int .u8 x.name.toNat, .int .i64 x.place, .int .i64 x.depth, .int .i64 x.kind, .int .i64 x.outer, .int .i64 x.end_, .string x.enter, .string x.leave, .bool x.rem, .bool x.wh]
def TrH.cells (x : TrH) : List Value := [.int .i64 x.q.own, .int .u8 x.q.event.toNat, x.cv, .int .u8 x.q.tn.toNat, .int .i64 x.q.tp, .int .i64 x.q.ts, .int .u8 x.q.mark.toNat, .int .i64 x.q.mp, .string x.q.acts]
theorem CdP.len (x : CdP) : x.cells.length = 4 := rfl
theorem StP.len (x : StP) : x.cells.length = 10 := rfl
theorem TrH.len (x : TrH) : x.cells.length = 9 := rfl

theorem elemCond : ElemOk Tryz.prog 117 123 4 32 where
 ht := Tryz.underlying117
 info := by
  obtain ⟨i, h0, h1, h2, h3⟩ := info_parts (show (Tryz.prog.info? 123).map (fun i => (i.zero, i.size, i.bytes)) = some (some (.agg #[.int .u8 0, .int .i64 0, .int .i64 0, .bool false]), 4, 32) by kernel_rfl)
  exact ⟨i, _, h0, h1, h2, h3, rfl⟩
 pos := by decide
theorem elemPState : ElemOk Tryz.prog 36 115 10 88 where
 ht := Tryz.underlying36
 info := by
  obtain ⟨i, h0, h1, h2, h3⟩ := info_parts (show (Tryz.prog.info? 115).map (fun i => (i.zero, i.size, i.bytes)) = some (some (.agg #[.int .u8 0, .int .i64 0, .int .i64 0, .int .i64 0, .int .i64 0, .int .i64 0, .string ⟨#[]⟩, .string ⟨#[]⟩, .bool false, .bool false]), 10, 88) by kernel_rfl)
  exact ⟨i, _, h0, h1, h2, h3, rfl⟩
 pos := by decide
theorem elemPTrans : ElemOk Tryz.prog 37 121 9 96 where
 ht := Tryz.underlying37
 info := by
  obtain ⟨i, h0, h1, h2, h3⟩ := info_parts (show (Tryz.prog.info? 121).map (fun i => (i.zero, i.size, i.bytes)) = some (some (.agg #[.int .i64 0, .int .u8 0, .slice none 0 0, .int .u8 0, .int .i64 0, .int .i64 0, .int .u8 0, .int .i64 0, .string ⟨#[]⟩]), 9, 96) by kernel_rfl)
  exact ⟨i, _, h0, h1, h2, h3, rfl⟩
 pos := by decide

structure Rn where
 i : Nat
 st : List StP
 tr : List TrQ
structure Ws where
 v2 : Value
 v3 : Value
 th : List TrH

def OwnR (b : Nat) (ws : Ws) (k : Nat) : Prop := k = b ∨ ws.v2.ownBlock = some k ∨ ws.v3.ownBlock = some k ∨ ∃ t ∈ ws.th, t.cv.ownBlock = some k
def OwnQ (q b : Nat) (ws : Ws) (k : Nat) : Prop := k = q ∨ OwnR b ws k

def PlB (w : World) (b : Nat) (ws : Ws) : Prop := Blk w b #[ws.v2, ws.v3] 39
structure RdV (w : World) (q b : Nat) (s : ByteArray) (r : Rn) (ws : Ws) : Prop where
 blk : RdB w q s r.i
 pb : PlB w b ws
 r2 : w.ownsRow 0 115 10 ws.v2 r.st.length (r.st.flatMap StP.cells)
 r3 : w.ownsRow 0 121 9 ws.v3 ws.th.length (ws.th.flatMap TrH.cells)
 rc : ∀ t ∈ ws.th, w.ownsRow 0 123 4 t.cv t.q.conds.length (t.q.conds.flatMap CdP.cells)
 ht : ws.th.map TrH.q = r.tr
 n2 : ws.v2.ownBlock ≠ some b
 n3 : ws.v3.ownBlock ≠ some b
 d23 : Ap ws.v2 ws.v3
 nc : ∀ t ∈ ws.th, t.cv.ownBlock ≠ some b ∧ Ap t.cv ws.v2 ∧ Ap t.cv ws.v3
 pw : ws.th.Pairwise fun t u => Ap t.cv u.cv
 nq : ¬ OwnR b ws q

structure EvR (q b : Nat) (ws ws' : Ws) (w w' : World) : Prop where
 fr : Fr (OwnQ q b ws) w w'
 own : ∀ k, k < w.heap.size → OwnQ q b ws' k → OwnQ q b ws k

section
variable {q b : Nat} {vs vs' : Ws} {w w' : World}
theorem EvR.refl (q b : Nat) (vs : Ws) (w : World) : EvR q b vs vs w w := ⟨Fr.refl _ _, fun _ _ h => h⟩
theorem EvR.trans {v1 v2 v3 : Ws} {w1 w2 w3 : World} (h : EvR q b v1 v2 w1 w2) (k : EvR q b v2 v3 w2 w3) : EvR q b v1 v3 w1 w3 :=
 ⟨h.fr.thenr k.fr (fun i hi ho => h.own i hi ho), fun i hi ho => h.own i hi (k.own i (Nat.lt_of_lt_of_le hi h.fr.size) ho)⟩
theorem EvR.of_fr (h : Fr (· = q) w w') : EvR q b vs vs w w' := ⟨h.mono (fun _ _ e => Or.inl e), fun _ _ h => h⟩
theorem EvR.alloc (h : EvR q b vs vs' w w') (o : Obj) : EvR q b vs vs' w (w'.alloc o) := ⟨h.fr.allocr o, h.own⟩
theorem EvR.drewN (h : EvR q b vs vs' w w') (n : Nat) : EvR q b vs vs' w (w'.drewN n) := ⟨h.fr.drewNr n, h.own⟩
theorem EvR.drew (h : EvR q b vs vs' w w') : EvR q b vs vs' w w'.drew := ⟨h.fr.drewr, h.own⟩
theorem EvR.setOwn (h : EvR q b vs vs' w w') (o : Nat) (v : Value) : EvR q b vs vs' w (w'.setCell ⟨q, o, none⟩ v) := ⟨h.fr.setCellr ⟨q, o, none⟩ v (Or.inl (Or.inl rfl)), h.own⟩
theorem EvR.keeps (h : EvR q b vs vs' w w') {k : Nat} {c : Array Value} {e : TypeId} (hq : Blk w k c e) (hn : ¬ OwnQ q b vs k) : Blk w' k c e ∧ ¬ OwnQ q b vs' k :=
 ⟨hq.fr h.fr hn, fun ho => hn (h.own k hq.lt ho)⟩
end

section
variable {w : World} {q b : Nat} {s : ByteArray} {r : Rn} {ws : Ws}

theorem RdV.fr {S : Nat → Prop} {w' : World} (h : RdV w q b s r ws) (f : Fr S w w') (hS : ∀ k, OwnQ q b ws k → ¬ S k) : RdV w' q b s r ws where
 blk := Blk.fr h.blk f (hS q (Or.inl rfl))
 pb := Blk.fr h.pb f (hS b (Or.inr (Or.inl rfl)))
 r2 := row_fr h.r2 f (fun k hk => hS k (Or.inr (Or.inr (Or.inl hk))))
 r3 := row_fr h.r3 f (fun k hk => hS k (Or.inr (Or.inr (Or.inr (Or.inl hk)))))
 rc := fun t ht => row_fr (h.rc t ht) f (fun k hk => hS k (Or.inr (Or.inr (Or.inr (Or.inr ⟨t, ht, hk⟩)))))
 ht := h.ht
 n2 := h.n2
 n3 := h.n3
 d23 := h.d23
 nc := h.nc
 pw := h.pw
 nq := h.nq
theorem RdV.alloc (h : RdV w q b s r ws) (o : Obj) : RdV (w.alloc o) q b s r ws := h.fr (Fr.alloc (fun _ => False) w o) (fun _ _ h => h)
theorem RdV.drewN (h : RdV w q b s r ws) (n : Nat) : RdV (w.drewN n) q b s r ws := h.fr (Fr.drewN (fun _ => False) w n) (fun _ _ h => h)
theorem RdV.drew (h : RdV w q b s r ws) : RdV w.drew q b s r ws := h.fr (Fr.drew (fun _ => False) w) (fun _ _ h => h)
theorem RdV.setOther (h : RdV w q b s r ws) (a : Addr) (v : Value) (hq : ¬ OwnQ q b ws a.block) : RdV (w.setCell a v) q b s r ws := h.fr (Fr.setCell (· = a.block) w a v rfl) (fun k hk e => hq (e ▸ hk))
theorem RdV.own_lt (h : RdV w q b s r ws) {k : Nat} (hk : OwnQ q b ws k) : k < w.heap.size := by
 rcases hk with rfl | rfl | hk | hk | ⟨t, ht, hk⟩
 ·exact Blk.lt h.blk
 ·exact Blk.lt h.pb
 ·exact (h.r2.lt k hk).2
 ·exact (h.r3.lt k hk).2
 ·exact ((h.rc t ht).lt k hk).2
theorem RdV.move {w' : World} {i : Nat} (h : RdV w q b s r ws) (hb : RdB w' q s i) (f : Fr (· = q) w w') : RdV w' q b s { r with i := i } ws where
 blk := hb
 pb := Blk.fr h.pb f (fun e => h.nq (e ▸ Or.inl rfl))
 r2 := row_fr h.r2 f (fun k hk e => h.nq (e ▸ Or.inr (Or.inl hk)))
 r3 := row_fr h.r3 f (fun k hk e => h.nq (e ▸ Or.inr (Or.inr (Or.inl hk))))
 rc := fun t ht => row_fr (h.rc t ht) f (fun k hk e => h.nq (e ▸ Or.inr (Or.inr (Or.inr ⟨t, ht, hk⟩))))
 ht := h.ht
 n2 := h.n2
 n3 := h.n3
 d23 := h.d23
 nc := h.nc
 pw := h.pw
 nq := h.nq
theorem RdV.step (h : RdV w q b s r ws) (i : Nat) (hi : i = r.i + 1) : RdV (w.setCell ⟨q, 1, none⟩ (.int .i64 ((r.i : Int) + 1))) q b s { r with i := i } ws := by
 subst hi; exact h.move (Blk.set h.blk 1 _) (Fr.setCell _ _ _ _ rfl)
theorem RdV.lt2 (h : RdV w q b s r ws) : ∀ k, ws.v2.ownBlock = some k → k < w.heap.size := fun k hk => (h.r2.lt k hk).2
theorem RdV.lt3 (h : RdV w q b s r ws) : ∀ k, ws.v3.ownBlock = some k → k < w.heap.size := fun k hk => (h.r3.lt k hk).2
theorem RdV.ltc (h : RdV w q b s r ws) (t : TrH) (ht : t ∈ ws.th) : ∀ k, t.cv.ownBlock = some k → k < w.heap.size := fun k hk => ((h.rc t ht).lt k hk).2
theorem RdV.qb (h : RdV w q b s r ws) : q ≠ b := fun e => h.nq (Or.inl e)

theorem RdV.push2 {w1 : World} {g c : Nat} (h : RdV w q b s r ws) (x : StP) (hr : w1.ownsRow 0 115 10 (.slice (some ⟨g, 0, none⟩) (r.st.length + 1) c) (r.st.length + 1) (r.st.flatMap StP.cells ++ x.cells))
  (hg : w.grownBy w1 ws.v2.ownBlock) (hgo : ws.v2.ownBlock = some g ∨ w.heap.size ≤ g) :
  RdV (w1.setCell ⟨b, 0, none⟩ (.slice (some ⟨g, 0, none⟩) (r.st.length + 1) c)) q b s { r with st := r.st ++ [x] } { ws with v2 := .slice (some ⟨g, 0, none⟩) (r.st.length + 1) c } ∧
  EvR q b ws { ws with v2 := .slice (some ⟨g, 0, none⟩) (r.st.length + 1) c } w (w1.setCell ⟨b, 0, none⟩ (.slice (some ⟨g, 0, none⟩) (r.st.length + 1) c)) := by
 have hbl := Blk.lt h.pb
 have hql := Blk.lt h.blk
 have hgb : g ≠ b := by rcases hgo with e | e; exact fun e' => h.n2 (by rw [e, e']); omega
 have hgq : g ≠ q := by rcases hgo with e | e; exact fun e' => h.nq (Or.inr (Or.inl (by rw [e, e']))); omega
 have f1 : Fr (fun j => ws.v2.ownBlock = some j) w w1 := Fr.grown _ hg (fun _ e => e)
 have b1 := Blk.fr h.pb f1 h.n2
 have f2 : Fr (· = b) w1 (w1.setCell ⟨b, 0, none⟩ (.slice (some ⟨g, 0, none⟩) (r.st.length + 1) c)) := Fr.setCell _ _ _ _ rfl
 have f12 := f1.trans f2 (U := fun j => ws.v2.ownBlock = some j ∨ j = b) (fun _ _ h => Or.inl h) (fun _ _ h => Or.inr h)
 refine ⟨{ blk := Blk.fr h.blk f12 (fun e => e.elim (fun e => h.nq (Or.inr (Or.inl e))) (fun e => h.qb e)), pb := Blk.set b1 0 _, r2 := (by simpa using row_fr hr f2 (fun j hj e => hgb (by simp [Value.ownBlock] at hj; omega))), r3 := row_fr h.r3 f12 (fun q hq e => e.elim (fun e => h.d23 q e hq) (fun e => h.n3 (by rw [hq, e]))), rc := fun t ht => row_fr (h.rc t ht) f12 (fun q hq e => e.elim (fun e => (h.nc t ht).2.1 q hq e) (fun e => (h.nc t ht).1 (by rw [hq, e]))), ht := h.ht, n2 := (by simp [Value.ownBlock]; exact hgb), n3 := h.n3, d23 := Ap.turn h.d23 h.lt3 hgo, nc := fun t ht => ⟨(h.nc t ht).1, (Ap.turn (h.nc t ht).2.1.symm (h.ltc t ht) hgo).symm, (h.nc t ht).2.2⟩, pw := h.pw, nq := ?_ }, ⟨f12.mono (fun j _ e => Or.inr (e.elim (fun e => Or.inr (Or.inl e)) Or.inl)), ?_⟩⟩
 ·rintro (e | e | e)
  ·exact h.qb e
  ·simp only [Value.ownBlock, Option.some.injEq] at e; exact hgq e
  ·exact h.nq (Or.inr (Or.inr e))
 ·intro j hj ho
  rcases ho with ho | ho | ho | ho | ho
  ·exact Or.inl ho
  ·exact Or.inr (Or.inl ho)
  ·simp only [Value.ownBlock, Option.some.injEq] at ho; subst ho; rcases hgo with e | e
   ·exact Or.inr (Or.inr (Or.inl e))
   ·omega
  ·exact Or.inr (Or.inr (Or.inr (Or.inl ho)))
  ·exact Or.inr (Or.inr (Or.inr (Or.inr ho)))

theorem RdV.push3 {w1 : World} {g c : Nat} (h : RdV w q b s r ws) (x : TrH) (hx : w.ownsRow 0 123 4 x.cv x.q.conds.length (x.q.conds.flatMap CdP.cells)) (hxo : ∀ k, x.cv.ownBlock = some k → ¬ OwnQ q b ws k)
  (hr : w1.ownsRow 0 121 9 (.slice (some ⟨g, 0, none⟩) (ws.th.length + 1) c) (ws.th.length + 1) (ws.th.flatMap TrH.cells ++ x.cells))
  (hg : w.grownBy w1 ws.v3.ownBlock) (hgo : ws.v3.ownBlock = some g ∨ w.heap.size ≤ g) :
  RdV (w1.setCell ⟨b, 1, none⟩ (.slice (some ⟨g, 0, none⟩) (ws.th.length + 1) c)) q b s { r with tr := r.tr ++ [x.q] } ⟨ws.v2, .slice (some ⟨g, 0, none⟩) (ws.th.length + 1) c, ws.th ++ [x]⟩ ∧
  (∀ w0, EvR q b ws ws w0 w → (∀ k, x.cv.ownBlock = some k → w0.heap.size ≤ k) → EvR q b ws ⟨ws.v2, .slice (some ⟨g, 0, none⟩) (ws.th.length + 1) c, ws.th ++ [x]⟩ w0 (w1.setCell ⟨b, 1, none⟩ (.slice (some ⟨g, 0, none⟩) (ws.th.length + 1) c))) := by
 have hbl := Blk.lt h.pb
 have hql := Blk.lt h.blk
 have hgb : g ≠ b := by rcases hgo with e | e; exact fun e' => h.n3 (by rw [e, e']); omega
 have hgq : g ≠ q := by rcases hgo with e | e; exact fun e' => h.nq (Or.inr (Or.inr (Or.inl (by rw [e, e'])))); omega
 have f1 : Fr (fun j => ws.v3.ownBlock = some j) w w1 := Fr.grown _ hg (fun _ e => e)
 have b1 := Blk.fr h.pb f1 h.n3
 have f2 : Fr (· = b) w1 (w1.setCell ⟨b, 1, none⟩ (.slice (some ⟨g, 0, none⟩) (ws.th.length + 1) c)) := Fr.setCell _ _ _ _ rfl
 have f12 := f1.trans f2 (U := fun j => ws.v3.ownBlock = some j ∨ j = b) (fun _ _ h => Or.inl h) (fun _ _ h => Or.inr h)
 have hxlt : ∀ k, x.cv.ownBlock = some k → k < w.heap.size := fun k hk => (hx.lt k hk).2
 have hx2 : Ap x.cv ws.v2 := fun k h1 h2 => hxo k h1 (Or.inr (Or.inr (Or.inl h2)))
 have hx3 : Ap x.cv ws.v3 := fun k h1 h2 => hxo k h1 (Or.inr (Or.inr (Or.inr (Or.inl h2))))
 have hxb : x.cv.ownBlock ≠ some b := fun h1 => hxo b h1 (Or.inr (Or.inl rfl))
 have hxq : x.cv.ownBlock ≠ some q := fun h1 => hxo q h1 (Or.inl rfl)
 refine ⟨{ blk := Blk.fr h.blk f12 (fun e => e.elim (fun e => h.nq (Or.inr (Or.inr (Or.inl e)))) (fun e => h.qb e)), pb := Blk.set b1 1 _, r2 := row_fr h.r2 f12 (fun q hq e => e.elim (fun e => h.d23 q hq e) (fun e => h.n2 (by rw [hq, e]))), r3 := (by simpa using row_fr hr f2 (fun j hj e => hgb (by simp [Value.ownBlock] at hj; omega))), rc := ?_, ht := (by simp [h.ht]), n2 := h.n2, n3 := (by simp [Value.ownBlock]; exact hgb), d23 := (Ap.turn h.d23.symm h.lt2 hgo).symm, nc := ?_, pw := ?_, nq := ?_ }, ?_⟩
 ·intro t ht
  rcases List.mem_append.1 ht with ht | ht
  ·exact row_fr (h.rc t ht) f12 (fun q hq e => e.elim (fun e => (h.nc t ht).2.2 q hq e) (fun e => (h.nc t ht).1 (by rw [hq, e])))
  ·simp only [List.mem_cons, List.not_mem_nil, or_false] at ht
   subst ht
   exact row_fr hx f12 (fun q hq e => e.elim (fun e => hx3 q hq e) (fun e => hxb (by rw [hq, e])))
 ·intro t ht
  rcases List.mem_append.1 ht with ht | ht
  ·exact ⟨(h.nc t ht).1, (h.nc t ht).2.1, (Ap.turn (h.nc t ht).2.2.symm (h.ltc t ht) hgo).symm⟩
  ·simp only [List.mem_cons, List.not_mem_nil, or_false] at ht
   subst ht
   exact ⟨hxb, hx2, (Ap.turn hx3.symm hxlt hgo).symm⟩
 ·rw [List.pairwise_append]
  refine ⟨h.pw, List.pairwise_singleton _ _, ?_⟩
  intro t ht u hu
  simp only [List.mem_cons, List.not_mem_nil, or_false] at hu
  subst hu
  exact fun k h1 h2 => hxo k h2 (Or.inr (Or.inr (Or.inr (Or.inr ⟨t, ht, h1⟩))))
 ·rintro (e | e | e | ⟨t, ht, e⟩)
  ·exact h.qb e
  ·exact h.nq (Or.inr (Or.inl e))
  ·simp only [Value.ownBlock, Option.some.injEq] at e; exact hgq e
  ·rcases List.mem_append.1 ht with ht | ht
   ·exact h.nq (Or.inr (Or.inr (Or.inr ⟨t, ht, e⟩)))
   ·simp only [List.mem_cons, List.not_mem_nil, or_false] at ht
    subst ht
    exact hxq e
 ·intro w0 he hx0
  refine ⟨he.fr.thenr f12 (fun i _ e => Or.inr (e.elim (fun e => Or.inr (Or.inr (Or.inl e))) Or.inl)), ?_⟩
  intro j hj ho
  have hj2 : j < w.heap.size := Nat.lt_of_lt_of_le hj he.fr.size
  rcases ho with ho | ho | ho | ho | ⟨t, ht, ho⟩
  ·exact Or.inl ho
  ·exact Or.inr (Or.inl ho)
  ·exact Or.inr (Or.inr (Or.inl ho))
  ·simp only [Value.ownBlock, Option.some.injEq] at ho; subst ho; rcases hgo with e | e
   ·exact Or.inr (Or.inr (Or.inr (Or.inl e)))
   ·omega
  ·rcases List.mem_append.1 ht with ht | ht
   ·exact Or.inr (Or.inr (Or.inr (Or.inr ⟨t, ht, ho⟩)))
   ·simp only [List.mem_cons, List.not_mem_nil, or_false] at ht
    subst ht
    have := hx0 j ho
    omega

theorem RdV.poke2 {g c : Nat} (h : RdV w q b s r ws) (hv : ws.v2 = .slice (some ⟨g, 0, none⟩) r.st.length c) (j : Nat) (v : Value) (st' : List StP)
  (hl : st'.length = r.st.length) (hst : st'.flatMap StP.cells = (r.st.flatMap StP.cells).set j v) (hj : j < r.st.length * 10) :
  RdV (w.setCell ⟨g, j, none⟩ v) q b s { r with st := st' } ws ∧ EvR q b ws ws w (w.setCell ⟨g, j, none⟩ v) := by
 have ho : ws.v2.ownBlock = some g := by rw [hv]; rfl
 have f : Fr (· = g) w (w.setCell ⟨g, j, none⟩ v) := Fr.setCell _ _ _ _ rfl
 refine ⟨{ blk := Blk.fr h.blk f (fun e => h.nq (Or.inr (Or.inl (by rw [ho, e])))), pb := Blk.fr h.pb f (fun e => h.n2 (by rw [ho, e])), r2 := ?_, r3 := row_fr h.r3 f (fun k hk e => h.d23 g ho (by rw [hk, e])), rc := fun t ht => row_fr (h.rc t ht) f (fun k hk e => (h.nc t ht).2.1 k hk (by rw [ho, e])), ht := h.ht, n2 := h.n2, n3 := h.n3, d23 := h.d23, nc := h.nc, pw := h.pw, nq := h.nq }, ⟨f.mono (fun k _ e => Or.inr (Or.inr (Or.inl (by rw [ho, e])))), fun _ _ h => h⟩⟩
 have h3 := h.r2
 rw [hv] at h3 ⊢
 have := row_set h3 j v hj
 rw [hst]
 show World.ownsRow _ _ _ _ _ st'.length _
 rw [hl]
 exact this
theorem RdV.st2 {g c k : Nat} {x : StP} (h : RdV w q b s r ws) (hv : ws.v2 = .slice (some ⟨g, 0, none⟩) r.st.length c) (hx : r.st[k]? = some x) (o : Nat) (v : Value) (ho : o < 10) (hvv : x.cells[o]? = some v) :
  w.cell? ⟨g, k * 10 + o, none⟩ = some v ∧ w.frozen? ⟨g, k * 10 + o, none⟩ = false := by
 have h3 := h.r2
 rw [hv] at h3
 exact row_cell h3 (k * 10 + o) v (by rw [flat_get StP.cells 10 StP.len r.st k o x hx ho]; exact hvv)
def PlAny (w : World) (b : Nat) : Prop := ∃ a2 n2 k2 a3 n3 k3, Blk w b #[.slice a2 n2 k2, .slice a3 n3 k3] 39
theorem RdV.bad (h : RdV w q b s r ws) : PlAny w b := by
 obtain ⟨a2, k2, e2⟩ := row_len h.r2
 obtain ⟨a3, k3, e3⟩ := row_len h.r3
 have hb := h.pb
 unfold PlB at hb
 rw [e2, e3] at hb
 exact ⟨_, _, _, _, _, _, hb⟩
theorem PlB.cells {w : World} {b : Nat} {ws : Ws} (h : PlB w b ws) : w.cell? ⟨b, 0, none⟩ = some ws.v2 ∧ w.cell? ⟨b, 1, none⟩ = some ws.v3 ∧ ∀ o, w.frozen? ⟨b, o, none⟩ = false := by
 refine ⟨?_, ?_, Blk.frozen h⟩ <;> (rw [Blk.cell h]; rfl)
theorem RdV.after2 {w1 : World} (h : RdV w q b s r ws) (hg : w.grownBy w1 ws.v2.ownBlock) : PlB w1 b ws := Blk.fr h.pb (Fr.grown (fun j => ws.v2.ownBlock = some j) hg (fun _ e => e)) h.n2
theorem RdV.after3 {w1 : World} (h : RdV w q b s r ws) (hg : w.grownBy w1 ws.v3.ownBlock) : PlB w1 b ws := Blk.fr h.pb (Fr.grown (fun j => ws.v3.ownBlock = some j) hg (fun _ e => e)) h.n3
end

end Go.Proofs.YtmolmbeeoecnfaaGreatDoor
