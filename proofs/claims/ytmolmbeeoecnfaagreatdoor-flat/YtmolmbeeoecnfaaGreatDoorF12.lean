/- Own work: Un. -/
import Derived.Test.YtmolmbeeoecnfaaGreatDoorF05
import Derived.Test.YtmolmbeeoecnfaaGreatDoorF11
/- Own work: the walks of the program's understand and Check. -/
namespace Go.Proofs.YtmolmbeeoecnfaaGreatDoor
open Go.RowKit Go.BigFrame
set_option linter.unusedVariables false
set_option linter.unusedSimpArgs false

def CdOk (s : ByteArray) (r : Rn) : Prop := ∀ t ∈ r.tr, t.conds.length ≤ s.size
theorem rcF_len (s : ByteArray) : ∀ (f i : Nat) (a : List CdP), i ≤ s.size → a.length ≤ i → (rcF s f i a).2.2.length ≤ s.size
 | 0, i, a, h, ha => by simp only [rcF]; omega
 | f + 1, i, a, h, ha => by
  simp only [rcF]
  split
  ·have h1 := isC_b s i ‹_›
   split
   ·have h2 := isN_b s (i + 1) ‹_›
    exact rcF_len s f (i + 2) _ (by omega) (by simp; omega)
   ·simp only; omega
  ·simp only; omega
theorem rtP_cd (s : ByteArray) (own i : Nat) (h : i < s.size) : (rtP s own i).2.2.conds.length ≤ s.size := by
 unfold rtP
 simp only
 split
 ·simp
 ·rename_i hE
  have h1 := isE_b s (i + 1) (by simpa using hE)
  split
  ·simp
  ·split
   ·simp
   ·split
    ·simp
    ·exact rcF_len s _ (i + 2) [] h1 (Nat.zero_le _)
theorem CdOk.push {s : ByteArray} {r : Rn} (h : CdOk s r) (own : Nat) (hi : r.i < s.size) : CdOk s { r with i := (rtP s own r.i).2.1, tr := r.tr ++ [(rtP s own r.i).2.2] } := by
 intro t ht
 rcases List.mem_append.1 ht with ht | ht
 ·exact h t ht
 ·simp only [List.mem_cons, List.not_mem_nil, or_false] at ht
  rw [ht]; exact rtP_cd s own r.i hi
theorem CdOk.rtF {s : ByteArray} {own : Nat} : ∀ (f : Nat) (r : Rn), CdOk s r → CdOk s (rtF s own f r).2
 | 0, r, h => h
 | f + 1, r, h => by
  simp only [Proofs.YtmolmbeeoecnfaaGreatDoor.rtF]
  split
  ·have hi := sg_in s 47 r.i (by decide) ‹_›
   split
   ·exact CdOk.rtF f _ (h.push own hi)
   ·exact h.push own hi
  ·exact h
theorem CdOk.riF {s : ByteArray} {g : Rn → Bool × Rn} (hg : ∀ q, CdOk s q → CdOk s (g q).2) : ∀ (f n : Nat) (r : Rn), CdOk s r → CdOk s (riF s g f n r).2.2
 | 0, n, r, h => h
 | f + 1, n, r, h => by
  simp only [Proofs.YtmolmbeeoecnfaaGreatDoor.riF]
  split
  ·split
   ·exact CdOk.riF hg f _ _ (hg r h)
   ·exact hg r h
  ·exact h
theorem CdOk.riP {s : ByteArray} {g : Rn → Bool × Rn} (hg : ∀ q, CdOk s q → CdOk s (g q).2) (fin : UInt8) (least : Nat) (r : Rn) (h : CdOk s r) : CdOk s (riP s g fin least r).2 := by
 have h1 : CdOk s (riL s g 0 { r with i := r.i + 1 }).2.2 := CdOk.riF hg _ 0 { r with i := r.i + 1 } h
 unfold Proofs.YtmolmbeeoecnfaaGreatDoor.riP
 split
 ·exact h1
 ·split
  ·exact h1
  ·exact h1
theorem CdOk.rsF {s : ByteArray} : ∀ (f : Nat) (r : Rn) (outer : Int) (depth : Nat), CdOk s r → CdOk s (rsF s f r outer depth).2
 | 0, r, _, _, h => h
 | f + 1, r, outer, depth, h => by
  simp only [Proofs.YtmolmbeeoecnfaaGreatDoor.rsF]
  split
  ·exact h
  ·split
   ·exact h
   ·split
    ·exact h
    ·have h3 : CdOk s (rs3 s r.st.length (rs1 s r outer depth)) := h
     have h4 : CdOk s (rs4 s (fun q => Proofs.YtmolmbeeoecnfaaGreatDoor.rsF s f q (r.st.length : Nat) (depth + 1)) r.st.length (rs3 s r.st.length (rs1 s r outer depth))).2 := by
      unfold rs4
      split
      ·exact CdOk.riP (fun q hq => CdOk.rsF f q _ _ hq) _ _ _ h3
      ·split
       ·exact CdOk.riP (fun q hq => CdOk.rsF f q _ _ hq) _ _ _ h3
       ·exact h3
     unfold rs5
     split
     ·exact h4
     ·exact CdOk.rtF _ _ h4

theorem rsv_good {st : List StP} {tr : List TrQ} (h : rsv st tr = -1) : ∀ t ∈ tr, ¬ idxP st t.tn < 0 := by
 intro t ht hb
 unfold rsv at h
 cases hf : (tr.flatMap refsQ).find? (badR st) with
 | some x => rw [hf] at h; simp only at h; omega
 | none =>
  have h1 := List.find?_eq_none.1 hf (t.tn, t.tp) (List.mem_flatMap.2 ⟨t, ht, List.mem_append_right _ (by simp)⟩)
  simp [badR] at h1
  omega

def unE (s : ByteArray) : Nat × Int :=
 if 160 < s.size then (1, 0)
 else if rcK s = false then (2, (rcR s).2.i)
 else if ftd (rcR s).2.st ≠ -1 then (3, ftd (rcR s).2.st)
 else if ftw (rcR s).2.st ≠ -1 then (4, ftw (rcR s).2.st)
 else if rsv (rcR s).2.st (rcR s).2.tr ≠ -1 then (5, rsv (rcR s).2.st (rcR s).2.tr)
 else if mrk (rcR s).2.st ((rcR s).2.tr.map (resQ (rcR s).2.st)) ≠ -1 then (6, mrk (rcR s).2.st ((rcR s).2.tr.map (resQ (rcR s).2.st)))
 else (0, 0)
def unSt (s : ByteArray) : List StP := ((rcR s).2.tr.map (resQ (rcR s).2.st)).foldl mark1 (rcR s).2.st
def unTr (s : ByteArray) : List TrQ := (rcR s).2.tr.map (resQ (rcR s).2.st)

def UnPost (s : ByteArray) (w : World) (e : Ending) (w' : World) : Prop :=
 ∃ a2 n2 k2 a3 n3 k3, e = .returned (.tuple #[.agg #[.slice a2 n2 k2, .slice a3 n3 k3], .int .i64 (unE s).1, .int .i64 (unE s).2]) ∧ Fr (fun _ => False) w w' ∧
  ((unE s).1 = 0 → ∃ pb th, PlV w' pb (unSt s) ⟨.slice a2 n2 k2, .slice a3 n3 k3, th⟩ ∧ th.map TrH.q = unTr s ∧ ∀ k, OwnR pb ⟨.slice a2 n2 k2, .slice a3 n3 k3, th⟩ k → w.heap.size ≤ k)

theorem fr2 {S : Nat → Prop} {w w1 : World} (h : Fr S w w1) (b : Nat) (hb : S b ∨ w.heap.size ≤ b) (v0 v1 : Value) : Fr S w ((w1.setCell ⟨b, 0, none⟩ v0).setCell ⟨b, 1, none⟩ v1) :=
 (h.setCellr ⟨b, 0, none⟩ v0 hb).setCellr ⟨b, 1, none⟩ v1 hb
theorem RdV.toPlan {w : World} {rb b : Nat} {s : ByteArray} {r : Rn} {ws : Ws} (h : RdV w rb b s r ws) : PlV (w.alloc (.cells #[ws.v2, ws.v3] 39)) w.heap.size r.st ws where
 blk := Blk.new _ _ _
 r2 := h.r2.alloc _
 r3 := h.r3.alloc _
 rc := fun t ht => (h.rc t ht).alloc _
 n2 := fun e => by have := h.lt2 _ e; omega
 n3 := fun e => by have := h.lt3 _ e; omega
 d23 := h.d23
 nc := fun t ht => ⟨fun e => by have := h.ltc t ht _ e; omega, (h.nc t ht).2⟩
 pw := h.pw

set_option maxRecDepth 100000 in
set_option maxHeartbeats 2000000 in
theorem understand_any (w : World) (s : ByteArray) (hm : s.size ≤ maxLen) : Calls Tryz.prog 12 #[.string s] w (UnPost s w) := by
 unfold maxLen at hm
 by_cases h160 : (160 : Int) < s.size
 ·have HE : Hid (unE s = (1, 0)) := by show _ = _; rw [unE, if_pos (by omega)]
  go_enter Tryz.func12, Tryz.ntmps12
  go_wp2_with fail
  refine bodyPost_ret (v := .tuple #[.agg #[.slice none 0 0, .slice none 0 0], .int .i64 1, .int .i64 0]) (by simp [results, Tryz.results12, go_sem]) rfl ⟨none, 0, 0, none, 0, 0, ?_, ?_, ?_⟩
  ·rw [HE.out]; rfl
  ·exact by (repeat (first | exact Fr.refl _ _ | assumption | refine Fr.drewNr ?_ _ | refine Fr.drewr ?_ | refine Fr.allocr ?_ _ | refine Fr.setCellr ?_ _ _ (by first | exact Or.inl rfl | (right; simp; done) | (right; simp; omega))))
  ·rw [HE.out]; intro h; cases h
 ·have hd160 : decide ((160 : Int) < s.size) = false := by simpa using h160
  have hs160 : s.size ≤ 160 := by omega
  have HE0 : Hid (¬ 160 < s.size) := by show ¬ _; omega
  go_enter Tryz.func12, Tryz.ntmps12
  go_wp2_with fail
  have hb0 : RdB ((w.alloc (Obj.cells #[Value.slice none 0 0, Value.slice none 0 0] 39)).alloc (Obj.cells #[Value.string s, Value.int IntKind.i64 0] 73)) (w.heap.size + 1) s 0 := Blk.new' _ _ _ _ (by simp)
  have hrb := Blk.alloc (Blk.new w #[Value.slice none 0 0, Value.slice none 0 0] 39) (Obj.cells #[Value.string s, Value.int IntKind.i64 0] 73)
  have hfr0 : Fr (fun _ => False) w ((w.alloc (Obj.cells #[Value.slice none 0 0, Value.slice none 0 0] 39)).alloc (Obj.cells #[Value.string s, Value.int IntKind.i64 0] 73)) := by (repeat (first | exact Fr.refl _ _ | assumption | refine Fr.drewNr ?_ _ | refine Fr.drewr ?_ | refine Fr.allocr ?_ _ | refine Fr.setCellr ?_ _ _ (by first | exact Or.inl rfl | (right; simp; done) | (right; simp; omega))))
  have hsz0 : ((w.alloc (Obj.cells #[Value.slice none 0 0, Value.slice none 0 0] 39)).alloc (Obj.cells #[Value.string s, Value.int IntKind.i64 0] 73)).heap.size = w.heap.size + 2 := by simp
  generalize hW : ((w.alloc (Obj.cells #[Value.slice none 0 0, Value.slice none 0 0] 39)).alloc (Obj.cells #[Value.string s, Value.int IntKind.i64 0] 73)) = W at hb0 hrb hfr0 hsz0 ⊢
  clear hW
  refine (readChart_any W (w.heap.size + 1) s hb0 (by omega)).mono ?_
  rintro e w1 ⟨a2, n2, k2, a3, n3, k3, rfl, hb1, hf1, hyes⟩
  have hfr1 : Fr (fun _ => False) w w1 := hfr0.trans hf1 (fun _ _ h => h) (fun i hi e => by omega)
  have hrb1 := Blk.fr hrb hf1 (by omega)
  have hrl := Blk.lt hrb1
  have hrl1 := Blk.lt hb1
  by_cases hK : rcK s = false
  ·have HE : Hid (unE s = (2, ((rcR s).2.i : Int))) := by show _ = _; rw [unE, if_neg HE0.out, if_pos hK]
   rw [hK]
   obtain ⟨-, c1, -⟩ := hb1.cells
   have r0 : w1.cell? ⟨w.heap.size, 0, none⟩ = some (.slice none 0 0) := by rw [Blk.cell hrb1]; rfl
   have r1 : w1.cell? ⟨w.heap.size, 1, none⟩ = some (.slice none 0 0) := by rw [Blk.cell hrb1]; rfl
   have z0 := Blk.frozen hrb1 0
   have z1 := Blk.frozen hrb1 1
   clear hK hyes hf1 hfr0 hsz0
   go_wp2_with fail
   go_region
   all_goals
    go_wp2_with fail
    refine bodyPost_ret (v := .tuple #[.agg #[.slice none 0 0, .slice none 0 0], .int .i64 2, .int .i64 (rcR s).2.i]) (by simp [results, Tryz.results12, go_sem, hrl, r0, r1]) rfl ⟨none, 0, 0, none, 0, 0, ?_, ?_, ?_⟩
    ·rw [HE.out]; rfl
    ·exact ((fr2 hfr1 _ (Or.inr (Nat.le_refl _)) _ _).allocr _).drewr
    ·rw [HE.out]; intro h; cases h
  ·have hK' : rcK s = true := by simpa using hK
   obtain ⟨b, th0, hp1, hlo1⟩ := hyes hK'
   have HK : Hid (¬ rcK s = false) := hK
   have hrk : (rcR s).1 = true := by rw [rcK, Bool.and_eq_true] at hK'; exact hK'.1
   have hgo := rsF_goes s (s.size + 1) R0 (-1) 1 ⟨Nat.zero_le _, Nat.le_refl _, Nat.le_refl _⟩ (by show s.size - 0 < _; omega) hrk
   have hinv : RdInv s (rcR s).2 := hgo.inv
   have hcd : CdOk s (rcR s).2 := CdOk.rsF (s.size + 1) R0 (-1) 1 (fun t ht => by cases ht)
   rw [hK']
   clear hK hK' hyes hfr0 hrk hgo hf1
   obtain ⟨x2, y2, e2'⟩ := row_len hp1.r2
   obtain ⟨x3, y3, e3'⟩ := row_len hp1.r3
   injection e2' with u1 u2 u3
   injection e3' with u4 u5 u6
   simp only at u2 u5
   subst u2
   subst u5
   clear u1 u3 u4 u6
   obtain ⟨ws, hws⟩ : ∃ ws : Ws, ws = ⟨.slice a2 (rcR s).2.st.length k2, .slice a3 th0.length k3, th0⟩ := ⟨_, rfl⟩
   rw [← hws] at hp1 hlo1
   have e2 : ws.v2 = .slice a2 (rcR s).2.st.length k2 := by rw [hws]
   have e3 : ws.v3 = .slice a3 ws.th.length k3 := by rw [hws]
   have hthw : ws.th.length = th0.length := by rw [hws]
   rw [← hthw]
   clear hws hthw
   have hth : ws.th.map TrH.q = (rcR s).2.tr := hp1.ht
   obtain ⟨hi1, hi2, hi3⟩ := hinv
   have hthl : ws.th.length = (rcR s).2.tr.length := by rw [← hth]; simp
   have hpl : PlV (w1.alloc (.cells #[ws.v2, ws.v3] 39)) w1.heap.size (rcR s).2.st ws := hp1.toPlan
   rw [e2, e3] at hpl
   have r0 : w1.cell? ⟨w.heap.size, 0, none⟩ = some (.slice none 0 0) := by rw [Blk.cell hrb1]; rfl
   have r1 : w1.cell? ⟨w.heap.size, 1, none⟩ = some (.slice none 0 0) := by rw [Blk.cell hrb1]; rfl
   have hlow : ∀ k, OwnR w1.heap.size ws k → w.heap.size + 2 ≤ k := by
    rintro k (h | h | h | ⟨t, ht, h⟩)
    ·omega
    ·have := hlo1 k (Or.inr (Or.inl h)); omega
    ·have := hlo1 k (Or.inr (Or.inr (Or.inl h))); omega
    ·have := hlo1 k (Or.inr (Or.inr (Or.inr ⟨t, ht, h⟩))); omega
   have HTHL : Hid (ws.th.length = (rcR s).2.tr.length) := hthl
   have HTH : Hid (ws.th.map TrH.q = (rcR s).2.tr) := hth
   have hthl1 : ws.th.length ≤ 1000000 := by omega
   have HCD : Hid (CdOk s (rcR s).2) := hcd
   have HV : Hid (ws.v2 = .slice a2 (rcR s).2.st.length k2 ∧ ws.v3 = .slice a3 ws.th.length k3) := ⟨e2, e3⟩
   clear hthl hth hcd
   go_wp2_with fail
   have hfr2 := hfr1.allocr (.cells #[.slice a2 (rcR s).2.st.length k2, .slice a3 ws.th.length k3] 39)
   have hrb2 := Blk.alloc hrb1 (.cells #[.slice a2 (rcR s).2.st.length k2, .slice a3 ws.th.length k3] 39)
   generalize w1.alloc (.cells #[.slice a2 (rcR s).2.st.length k2, .slice a3 ws.th.length k3] 39) = W2 at hpl hfr2 hrb2 ⊢
   generalize w1.heap.size = pb at hpl hlow ⊢
   clear hp1 hfr1 hrb1 hrb r0 r1 e2 e3 hlo1 hrl hrl1 hb1 hb0
   generalize hR : (rcR s).2 = r at *
   have HRr : Hid ((rcR s).2 = r) := hR
   clear hR
   have hst : r.st.length ≤ 1000000 := by omega
   refine (firstTooDeep_any W2 pb r.st ws hpl hst).mono ?_
   rintro e w2 ⟨rfl, hf2⟩
   have hp2 := hpl.fr0 hf2
   have hfr3 := hfr2.thenr hf2 (fun _ _ h => h)
   have hrb3 := Blk.fr hrb2 hf2 (fun h => h)
   clear hpl hfr2 hrb2 hf2
   by_cases h3 : ftd r.st = -1
   ·have hb3 : (ftd r.st != -1) = false := by rw [h3]; rfl
    have H3 : Hid (¬ ftd r.st ≠ -1) := fun h => h h3
    clear h3
    go_wp2_with fail
    refine (firstTwice_any w2 pb r.st ws hp2 hst).mono ?_
    rintro e w3 ⟨rfl, hf3⟩
    have hp3 := hp2.fr0 hf3
    have hfr4 := hfr3.thenr hf3 (fun _ _ h => h)
    have hrb4 := Blk.fr hrb3 hf3 (fun h => h)
    clear hp2 hfr3 hrb3 hf3
    by_cases h4 : ftw r.st = -1
    ·have hb4 : (ftw r.st != -1) = false := by rw [h4]; rfl
     have H4 : Hid (¬ ftw r.st ≠ -1) := fun h => h h4
     clear h4
     go_wp2_with fail
     refine (resolve_any w3 pb r.st ws hp3 hst hthl1 (fun t ht => by have h := HCD.out t.q (by rw [← HTH.out]; exact List.mem_map_of_mem ht); omega)).mono ?_
     rintro e w4 ⟨rfl, hf4, hpost4⟩
     have hfr5 := hfr4.thenr hf4 (fun i hi ho => by have := hlow i ho; omega)
     have hrb5 := Blk.fr hrb4 hf4 (fun ho => by have := hlow _ ho; omega)
     rw [HTH.out] at hpost4 ⊢
     clear hp3 hfr4 hrb4 hf4
     by_cases h5 : rsv r.st r.tr = -1
     ·have hb5 : (rsv r.st r.tr != -1) = false := by rw [h5]; rfl
      have H5 : Hid (¬ rsv r.st r.tr ≠ -1) := fun h => h h5
      have hp5 := hpost4 h5
      have hgd := rsv_good h5
      have hts : ∀ t ∈ ws.th.map (resH r.st), 0 ≤ t.q.ts ∧ t.q.ts < r.st.length := by
       intro t ht
       obtain ⟨u, hu, rfl⟩ := List.mem_map.1 ht
       have h1 := hgd u.q (by rw [← HTH.out]; exact List.mem_map_of_mem hu)
       have h2 := idxP_bd r.st u.q.tn
       show 0 ≤ idxP r.st u.q.tn ∧ idxP r.st u.q.tn < _
       omega
      have hthq : (ws.th.map (resH r.st)).map TrH.q = r.tr.map (resQ r.st) := by rw [← HTH.out]; simp [resH]
      have hcvs : (ws.th.map (resH r.st)).map TrH.cv = ws.th.map TrH.cv := by rw [List.map_map]; rfl
      have hlow5 : ∀ k, OwnR pb { ws with th := ws.th.map (resH r.st) } k → w.heap.size + 2 ≤ k := fun k hk => hlow k (own_cv pb ws _ hcvs k hk)
      have HTQ : Hid _ := hthq
      clear h5 hpost4 hgd hthq hcvs
      go_wp2_with fail
      refine (markRem_any w4 pb r.st { ws with th := ws.th.map (resH r.st) } hp5 hst (by simpa using hthl1) hts).mono ?_
      rintro e w5 ⟨rfl, hf5, hpost5⟩
      have hfr6 := hfr5.thenr hf5 (fun i hi ho => by have := hlow5 i ho; omega)
      have hrb6 := Blk.fr hrb5 hf5 (fun ho => by have := hlow5 _ ho; omega)
      simp only at hpost5
      rw [HTQ.out] at hpost5
      show _
      rw [HTQ.out]
      have r0 : w5.cell? ⟨w.heap.size, 0, none⟩ = some (.slice none 0 0) := by rw [Blk.cell hrb6]; rfl
      have r1 : w5.cell? ⟨w.heap.size, 1, none⟩ = some (.slice none 0 0) := by rw [Blk.cell hrb6]; rfl
      have z0 := Blk.frozen hrb6 0
      have z1 := Blk.frozen hrb6 1
      clear hp5 hfr5 hrb5 hf5 hts
      by_cases h6 : mrk r.st (r.tr.map (resQ r.st)) = -1
      ·have hb6 : (mrk r.st (r.tr.map (resQ r.st)) != -1) = false := by rw [h6]; rfl
       have HE : Hid (unE s = (0, 0)) := by show _ = _; rw [unE, if_neg HE0.out, if_neg HK.out, HRr.out, if_neg H3.out, if_neg H4.out, if_neg H5.out, if_neg (fun h => h h6)]
       have hp6 := hpost5 h6
       have q0 : w5.cell? ⟨pb, 0, none⟩ = some (.slice a2 r.st.length k2) := by rw [Blk.cell hp6.blk, ← HV.out.1]; rfl
       have q1 : w5.cell? ⟨pb, 1, none⟩ = some (.slice a3 ws.th.length k3) := by rw [Blk.cell hp6.blk, ← HV.out.2]; rfl
       have HSt : Hid (unSt s = (r.tr.map (resQ r.st)).foldl mark1 r.st) := by show _ = _; rw [unSt, HRr.out]
       have HTr : Hid (unTr s = r.tr.map (resQ r.st)) := by show _ = _; rw [unTr, HRr.out]
       clear h6 hpost5
       go_wp2_with fail
       refine bodyPost_ret (v := .tuple #[.agg #[.slice a2 r.st.length k2, .slice a3 ws.th.length k3], .int .i64 0, .int .i64 0]) (by simp [results, Tryz.results12, go_sem, r0, r1]) rfl ⟨a2, r.st.length, k2, a3, ws.th.length, k3, ?_, ?_, ?_⟩
       ·rw [HE.out]; rfl
       ·exact fr2 hfr6 _ (Or.inr (Nat.le_refl _)) _ _
       ·intro _
        have hws : ({ ws with th := ws.th.map (resH r.st) } : Ws) = ⟨.slice a2 r.st.length k2, .slice a3 ws.th.length k3, ws.th.map (resH r.st)⟩ := by rw [← HV.out.1, ← HV.out.2]
        rw [HSt.out, HTr.out]
        refine ⟨pb, ws.th.map (resH r.st), ?_, HTQ.out, fun k hk => ?_⟩
        ·rw [← hws]
         exact hp6.fr (S := fun x => x = w.heap.size) (fr2 (S := fun x => x = w.heap.size) (Fr.refl _ _) w.heap.size (Or.inl rfl) _ _) (fun k hk e => by have := hlow5 k hk; omega)
        ·rw [← hws] at hk
         have := hlow5 k hk
         omega
      ·have hb6 : (mrk r.st (r.tr.map (resQ r.st)) != -1) = true := by simpa using h6
       have HE : Hid (unE s = (6, mrk r.st (r.tr.map (resQ r.st)))) := by show _ = _; rw [unE, if_neg HE0.out, if_neg HK.out, HRr.out, if_neg H3.out, if_neg H4.out, if_neg H5.out, if_pos h6]
       clear h6 hpost5
       go_wp2_with fail
       refine bodyPost_ret (v := .tuple #[.agg #[.slice none 0 0, .slice none 0 0], .int .i64 6, .int .i64 (mrk r.st (r.tr.map (resQ r.st)))]) (by simp [results, Tryz.results12, go_sem, r0, r1]) rfl ⟨none, 0, 0, none, 0, 0, ?_, ?_, ?_⟩
       ·rw [HE.out]; rfl
       ·exact fr2 hfr6 _ (Or.inr (Nat.le_refl _)) _ _
       ·rw [HE.out]; intro h; cases h
     ·have hb5 : (rsv r.st r.tr != -1) = true := by simpa using h5
      have HE : Hid (unE s = (5, rsv r.st r.tr)) := by show _ = _; rw [unE, if_neg HE0.out, if_neg HK.out, HRr.out, if_neg H3.out, if_neg H4.out, if_pos h5]
      have r0 : w4.cell? ⟨w.heap.size, 0, none⟩ = some (.slice none 0 0) := by rw [Blk.cell hrb5]; rfl
      have r1 : w4.cell? ⟨w.heap.size, 1, none⟩ = some (.slice none 0 0) := by rw [Blk.cell hrb5]; rfl
      have z0 := Blk.frozen hrb5 0
      have z1 := Blk.frozen hrb5 1
      clear h5 hpost4
      go_wp2_with fail
      refine bodyPost_ret (v := .tuple #[.agg #[.slice none 0 0, .slice none 0 0], .int .i64 5, .int .i64 (rsv r.st r.tr)]) (by simp [results, Tryz.results12, go_sem, r0, r1]) rfl ⟨none, 0, 0, none, 0, 0, ?_, ?_, ?_⟩
      ·rw [HE.out]; rfl
      ·exact fr2 hfr5 _ (Or.inr (Nat.le_refl _)) _ _
      ·rw [HE.out]; intro h; cases h
    ·have hb4 : (ftw r.st != -1) = true := by simpa using h4
     have HE : Hid (unE s = (4, ftw r.st)) := by show _ = _; rw [unE, if_neg HE0.out, if_neg HK.out, HRr.out, if_neg H3.out, if_pos h4]
     have r0 : w3.cell? ⟨w.heap.size, 0, none⟩ = some (.slice none 0 0) := by rw [Blk.cell hrb4]; rfl
     have r1 : w3.cell? ⟨w.heap.size, 1, none⟩ = some (.slice none 0 0) := by rw [Blk.cell hrb4]; rfl
     have z0 := Blk.frozen hrb4 0
     have z1 := Blk.frozen hrb4 1
     clear h4
     go_wp2_with fail
     refine bodyPost_ret (v := .tuple #[.agg #[.slice none 0 0, .slice none 0 0], .int .i64 4, .int .i64 (ftw r.st)]) (by simp [results, Tryz.results12, go_sem, r0, r1]) rfl ⟨none, 0, 0, none, 0, 0, ?_, ?_, ?_⟩
     ·rw [HE.out]; rfl
     ·exact fr2 hfr4 _ (Or.inr (Nat.le_refl _)) _ _
     ·rw [HE.out]; intro h; cases h
   ·have hb3 : (ftd r.st != -1) = true := by simpa using h3
    have HE : Hid (unE s = (3, ftd r.st)) := by show _ = _; rw [unE, if_neg HE0.out, if_neg HK.out, HRr.out, if_pos h3]
    have r0 : w2.cell? ⟨w.heap.size, 0, none⟩ = some (.slice none 0 0) := by rw [Blk.cell hrb3]; rfl
    have r1 : w2.cell? ⟨w.heap.size, 1, none⟩ = some (.slice none 0 0) := by rw [Blk.cell hrb3]; rfl
    have z0 := Blk.frozen hrb3 0
    have z1 := Blk.frozen hrb3 1
    clear h3
    go_wp2_with fail
    refine bodyPost_ret (v := .tuple #[.agg #[.slice none 0 0, .slice none 0 0], .int .i64 3, .int .i64 (ftd r.st)]) (by simp [results, Tryz.results12, go_sem, r0, r1]) rfl ⟨none, 0, 0, none, 0, 0, ?_, ?_, ?_⟩
    ·rw [HE.out]; rfl
    ·exact fr2 hfr3 _ (Or.inr (Nat.le_refl _)) _ _
    ·rw [HE.out]; intro h; cases h

end Go.Proofs.YtmolmbeeoecnfaaGreatDoor
