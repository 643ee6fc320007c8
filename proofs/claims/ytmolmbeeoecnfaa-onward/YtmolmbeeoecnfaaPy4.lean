/- Own work: the player in memory; activeBelow, leftBy. -/
import Derived.Test.YtmolmbeeoecnfaaPy3
import Derived.Deep.WholeRow
namespace Go.Proofs.Ytmolmbeeoecnfaa
open Go.RowKit Go.BigFrame
set_option linter.unusedVariables false
set_option linter.unusedSimpArgs false

/-- The player's status and output. -/
structure Py where
  act : List Bool
  mm : List (List Bool)
  out : List UInt8
def mmC (mm : List (List Bool)) : List Value := mm.flatMap bV
def pyC (ws : Ws) (p : Py) (vo : Value) : List Value := [ws.v2, ws.v3] ++ (bV p.act ++ (mmC p.mm ++ [vo]))
structure PyOk (p : Py) : Prop where
  la : p.act.length = 26
  lm : p.mm.length = 26
  le : ∀ m ∈ p.mm, m.length = 26
def byV (l : List UInt8) : List Value := l.map fun c => .int .u8 c.toNat
/-- A new variable gets the empty set: 'alloc' has laid it there. -/
theorem wpList_newset {ops : Array Oper} {rest : List Oper} {op : Oper} {a : Act} {w : World} {Q : Exit → Act → World → Prop} (hgd : op.guard = none) (x y : Operand) (ho : op.op = .store 73 x y)
    (w0 : World) (b : Nat) (hx : a.eval x = .pointer (some ⟨b, 0, none⟩)) (hy : a.eval y = .agg (#[.bool false, .bool false, .bool false, .bool false, .bool false, .bool false, .bool false, .bool false, .bool false, .bool false, .bool false, .bool false, .bool false, .bool false, .bool false, .bool false, .bool false, .bool false, .bool false, .bool false, .bool false, .bool false, .bool false, .bool false, .bool false, .bool false] : Array Value)) (hw : w = w0.alloc (.cells (#[.bool false, .bool false, .bool false, .bool false, .bool false, .bool false, .bool false, .bool false, .bool false, .bool false, .bool false, .bool false, .bool false, .bool false, .bool false, .bool false, .bool false, .bool false, .bool false, .bool false, .bool false, .bool false, .bool false, .bool false, .bool false, .bool false] : Array Value) 73)) (hb : b = w0.heap.size)
    (h : wpList Try.prog ops Q rest (a.put op.dst undef) w) : wpList Try.prog ops Q (op :: rest) a w := by
  refine wpList_plain hgd fun K hK => ?_
  unfold Oper.wp execOp
  have hrun := run_storeVar_new (P := Try.prog) w0 73 (#[.bool false, .bool false, .bool false, .bool false, .bool false, .bool false, .bool false, .bool false, .bool false, .bool false, .bool false, .bool false, .bool false, .bool false, .bool false, .bool false, .bool false, .bool false, .bool false, .bool false, .bool false, .bool false, .bool false, .bool false, .bool false, .bool false] : Array Value) (#[.bool false, .bool false, .bool false, .bool false, .bool false, .bool false, .bool false, .bool false, .bool false, .bool false, .bool false, .bool false, .bool false, .bool false, .bool false, .bool false, .bool false, .bool false, .bool false, .bool false, .bool false, .bool false, .bool false, .bool false, .bool false, .bool false] : Array Value) (setInfo' (l := noSet) rfl) rfl (one_bV noSet)
  rw [← hb, ← hw] at hrun
  simp only [ho, hx, hy, Instr.storeAt, Instr.sureAddr, Sem.run_bind, Sem.run_pure, Result.andThen_ok, hrun]
  exact hK _ _ h

structure PyV (w : World) (b : Nat) (st : List StP) (ws : Ws) (p : Py) (vo : Value) : Prop where
  blk : Blk w b (pyC ws p vo).toArray 78
  pl : PlR w st ws
  ro : w.ownsRow (b + 1) 5 1 vo p.out.length (byV p.out)
  np : ∀ k, OwnP ws k → k < b
  ok : PyOk p
theorem row_frB {w w' : World} {S : Nat → Prop} {B : Nat} {e : TypeId} {sz : Nat} {v : Value} {n : Nat} {xs : List Value} (h : w.ownsRow B e sz v n xs) (f : Fr S w w') (hn : ∀ k, v.ownBlock = some k → ¬ S k) : w'.ownsRow B e sz v n xs := by
  refine ⟨h.1, ?_⟩
  rcases h.2 with hn' | ⟨g, cap, cur, rfl, hb, hg, rest⟩
  · exact .inl hn'
  · exact .inr ⟨g, cap, cur, rfl, hb, (f.block g (Array.getElem?_eq_some_iff.1 hg).1 (hn g rfl)).trans hg, rest⟩
def OwnY (b : Nat) (vo : Value) (k : Nat) : Prop := k = b ∨ vo.ownBlock = some k
theorem PyV.fr {w w' : World} {b : Nat} {st : List StP} {ws : Ws} {p : Py} {vo : Value} {S : Nat → Prop} (h : PyV w b st ws p vo) (f : Fr S w w') (hS : ∀ k, OwnY b vo k ∨ OwnP ws k → ¬ S k) : PyV w' b st ws p vo where
  blk := Blk.fr h.blk f (hS b (Or.inl (Or.inl rfl)))
  pl := h.pl.fr f (fun k hk => hS k (Or.inr hk))
  ro := row_frB h.ro f (fun k hk => hS k (Or.inl (Or.inr hk)))
  np := h.np
  ok := h.ok
theorem PyV.fr0 {w w' : World} {b : Nat} {st : List StP} {ws : Ws} {p : Py} {vo : Value} (h : PyV w b st ws p vo) (f : Fr (fun _ => False) w w') : PyV w' b st ws p vo := h.fr f (fun _ _ h => h)

theorem mmC_get : ∀ (mm : List (List Bool)) (i j : Nat) (m : List Bool), (∀ m ∈ mm, m.length = 26) → mm[i]? = some m → j < 26 → (mmC mm)[i * 26 + j]? = (bV m)[j]?
  | [], i, j, m, _, h, _ => by simp at h
  | a :: r, 0, j, m, hl, h, hj => by
    simp at h; subst h
    have : a.length = 26 := hl a (by simp)
    simp only [mmC, List.flatMap_cons]
    rw [List.getElem?_append_left (by rw [bV_len]; omega)]; simp
  | a :: r, i + 1, j, m, hl, h, hj => by
    have : a.length = 26 := hl a (by simp)
    simp only [mmC, List.flatMap_cons]
    rw [List.getElem?_append_right (by rw [bV_len]; omega), bV_len, this, show (i + 1) * 26 + j - 26 = i * 26 + j by omega]
    exact mmC_get r i j m (fun m hm => hl m (by simp [hm])) (by simpa using h) hj
theorem mmC_len : ∀ (mm : List (List Bool)), (∀ m ∈ mm, m.length = 26) → (mmC mm).length = mm.length * 26
  | [], _ => rfl
  | a :: r, h => by
    have h1 : a.length = 26 := h a (by simp)
    have h2 := mmC_len r (fun m hm => h m (by simp [hm]))
    simp only [mmC, List.flatMap_cons, List.length_append, bV_len, List.length_cons] at *
    omega

section
variable {w : World} {b : Nat} {st : List StP} {ws : Ws} {p : Py} {vo : Value}
theorem PyV.c0 (h : PyV w b st ws p vo) : w.cell? ⟨b, 0, none⟩ = some ws.v2 := by rw [Blk.cell h.blk]; rfl
theorem PyV.c1 (h : PyV w b st ws p vo) : w.cell? ⟨b, 1, none⟩ = some ws.v3 := by rw [Blk.cell h.blk]; rfl
theorem pyC_act (ho : PyOk p) (k : Nat) (hk : k < 26) : (pyC ws p vo)[2 + k]? = some (.bool (mem p.act k)) := by
  rw [pyC, List.getElem?_append_right (by simp), List.getElem?_append_left (by simp [bV, ho.la]; omega)]
  simp [bV, mem, ho.la, hk]
theorem PyV.ca (h : PyV w b st ws p vo) (k : Nat) (hk : k < 26) : w.cell? ⟨b, 2 + k, none⟩ = some (.bool (mem p.act k)) := by
  rw [Blk.cell h.blk]; simpa using pyC_act h.ok k hk
theorem PyV.fz (h : PyV w b st ws p vo) (o : Nat) : w.frozen? ⟨b, o, none⟩ = false := Blk.frozen h.blk o
theorem pyC_len (ho : PyOk p) : (pyC ws p vo).length = 705 := by
  simp [pyC, bV_len, mmC_len p.mm ho.le, ho.la, ho.lm]
theorem PyV.co (h : PyV w b st ws p vo) : w.cell? ⟨b, 704, none⟩ = some vo := by
  rw [Blk.cell h.blk]
  have : (pyC ws p vo)[704]? = some vo := by
    rw [pyC, List.getElem?_append_right (by simp), List.getElem?_append_right (by simp [bV_len, h.ok.la]), List.getElem?_append_right (by simp [bV_len, h.ok.la, mmC_len p.mm h.ok.le, h.ok.lm])]
    simp [bV_len, h.ok.la, mmC_len p.mm h.ok.le, h.ok.lm]
  simpa using this
theorem PyV.ra (h : PyV w b st ws p vo) : w.rangeAt b 2 (bV p.act) := fun j v hv => by
  have hj : j < 26 := by have := (List.getElem?_eq_some_iff.1 hv).1; rw [bV_len, h.ok.la] at this; exact this
  rw [h.ca j hj, ← hv]
  simp [bV, mem, h.ok.la, hj]
theorem PyV.rm (h : PyV w b st ws p vo) {i : Nat} {m : List Bool} (hm : p.mm[i]? = some m) : w.rangeAt b (28 + i * 26) (bV m) := fun j v hv => by
  have hl : m.length = 26 := h.ok.le m (List.mem_of_getElem? hm)
  have hj : j < 26 := by have := (List.getElem?_eq_some_iff.1 hv).1; rw [bV_len, hl] at this; exact this
  have hi : i < 26 := by have := (List.getElem?_eq_some_iff.1 hm).1; rw [h.ok.lm] at this; exact this
  rw [Blk.cell h.blk, ← hv]
  rw [List.getElem?_toArray, pyC, List.getElem?_append_right (by simp; omega), List.getElem?_append_right (by simp [bV_len, h.ok.la]; omega), List.getElem?_append_left (by simp [bV_len, h.ok.la, mmC_len p.mm h.ok.le, h.ok.lm]; omega)]
  rw [← mmC_get p.mm i j m h.ok.le hm hj]
  congr 1
  simp [bV_len, h.ok.la]
  omega
end

end Go.Proofs.Ytmolmbeeoecnfaa
