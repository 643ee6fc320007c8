/- Own work: PyZ3. -/
import Derived.Test.YtmolmbeeoecnfaaGreatDoorF14
import Derived.Lib.AppendStr
import Derived.Deep.LoopGhost
import Derived.Deep.RegionHeld3
/- Own work: walks of the player: put. -/
namespace Go.Proofs.YtmolmbeeoecnfaaGreatDoor
open Go.RowKit Go.BigFrame
set_option linter.unusedVariables false
set_option linter.unusedSimpArgs false

theorem row_lenB {w : World} {B : Nat} {e : TypeId} {sz : Nat} {v : Value} {n : Nat} {xs : List Value} (h : w.ownsRow B e sz v n xs) : ∃ a c, v = .slice a n c := by
 rcases h.2 with ⟨h1, h0⟩ | ⟨g', cap, cur, hv, _⟩
 ·exact ⟨none, 0, by rw [h1, h0]⟩
 ·exact ⟨_, cap, hv⟩
theorem wpList_appendS {P : Program} {w : World} {ops : Array Oper} {rest : List Oper} {o : Oper} {a : Act} {Q : Exit → Act → World → Prop} (hgd : o.guard = none) (sl x : Operand) (t u : TypeId)
  (ho : o.op = .call { callee := .builtin .append, args := #[sl, x], argTypes := #[t, u] })
  (base : Nat) (e : TypeId) (he : ElemOk P t e 1 1) (hz0 : (P.info? e).bind (·.zero) = some (.int .u8 0)) (hu : P.underlying u = some .string)
  (v : Value) (n : Nat) (xs : List Value) (hs : a.eval sl = v) (hown : w.ownsRow base e 1 v n xs) (s : ByteArray) (hx : a.eval x = .string s) (hb : n + s.size ≤ 70368744177664) (hbase : base ≤ w.heap.size)
  (h : ∀ ra rc w', w'.ownsRow base e 1 (.slice ra (n + s.size) rc) (n + s.size) (xs ++ Go.Lib.strCells s) → w.grownBy w' v.ownBlock → (∀ k, k < w.heap.size → (Value.slice ra (n + s.size) rc).ownBlock = some k → v.ownBlock = some k) → wpList P ops Q rest (a.put o.dst (.slice ra (n + s.size) rc)) w') :
  wpList P ops Q (o :: rest) a w := by
 refine wpList_plain hgd fun K hK => ?_
 obtain ⟨ht, ⟨i, z, hi, hz, hsize, hby, hzs⟩, hsz⟩ := he
 rw [hi] at hz0
 have hz1 : i.zero = some (.int .u8 0) := by simpa using hz0
 obtain ⟨v', w', hr, h2, h3, h4⟩ := Go.Lib.run_append_own_string (P := P) w base t u o.type e i ht hu hi hz1 hsize hby v n xs hown s (by unfold maxLen; omega) (by omega) hbase
 obtain ⟨ra, rc, rfl⟩ := row_lenB h2
 have hold : ∀ k, k < w.heap.size → (Value.slice ra (n + s.size) rc).ownBlock = some k → v.ownBlock = some k := by
  intro k hk ho'
  have hxl : xs.length = n := by simpa using hown.1
  rcases hown.2 with ⟨rfl, rfl⟩ | ⟨g, cap, cur, rfl, hbg, hg, hnc, hcm, hcs, htake⟩
  ·by_cases hm : s.size = 0
   ·have := h4.2 ⟨rfl, hm⟩
    rw [this] at ho'
    simp [Value.ownBlock] at ho'
   ·have hr2 := run_append_nil_string (P := P) w t u o.type e i (.int .u8 0) ht hu hi hz1 s (by omega) (by omega) (by rw [hby]; omega)
    rw [hr2] at hr
    injection hr with e1 e2
    injection e1 with e3 e4 e5
    rw [← e3] at ho'
    simp [Value.ownBlock] at ho'
    omega
  ·by_cases hroom : n + s.size ≤ cap
   ·have hcs' : cur.size = cap := by simpa using hcs
    have hr2 := Go.Lib.run_append_room_string (P := P) w t u o.type e i ht hu hi hsize g n cap cur hg s hroom (by omega)
    rw [hr2] at hr
    injection hr with e1 e2
    injection e1 with e3 e4 e5
    rw [← e3] at ho'
    exact ho'
   ·have holds : ∀ j u, xs[j]? = some u → w.cell? ((⟨g, 0, none⟩ : Addr).add j) = some u := hown.cells (g := g) rfl
    have hr2 := Go.Lib.run_append_grow_string (P := P) w t u o.type e i (.int .u8 0) ht hu hi hz1 ⟨g, 0, none⟩ n cap xs (by rw [hsize]; simpa using hxl) holds s (by omega) (by omega) (by rw [hby]; exact growslice_fits (by omega) (by omega))
    rw [hr2] at hr
    injection hr with e1 e2
    injection e1 with e3 e4 e5
    rw [← e3] at ho'
    simp [Value.ownBlock] at ho'
    omega
 unfold Oper.wp execOp
 simp only [ho, resolve, invoke, builtin, Sem.run_bind, Sem.run_pure, Result.andThen_ok, List.map_toArray, List.map_cons, List.map_nil, hs, hx, hr]
 exact hK _ _ (h ra rc w' h2 h3 hold)

theorem elemU8 : ElemOk Tryz.prog 82 5 1 1 where
 ht := Tryz.underlying82
 info := by
  obtain ⟨i, h0, h1, h2, h3⟩ := info_parts (show (Tryz.prog.info? 5).map (fun i => (i.zero, i.size, i.bytes)) = some (some (.int .u8 0), 1, 1) by kernel_rfl)
  exact ⟨i, _, h0, h1, h2, h3, rfl⟩
 pos := by decide
theorem zeroU8 : (Tryz.prog.info? 5).bind (·.zero) = some (.int .u8 0) := by kernel_rfl

structure EvY (b : Nat) (vo vo' : Value) (w w' : World) : Prop where
 fr : Fr (OwnY b vo) w w'
 own : ∀ k, k < w.heap.size → OwnY b vo' k → OwnY b vo k
section
variable {b : Nat} {vo vo' : Value} {w w' : World}
theorem EvY.refl (b : Nat) (vo : Value) (w : World) : EvY b vo vo w w := ⟨Fr.refl _ _, fun _ _ h => h⟩
theorem EvY.trans {v1 v2 v3 : Value} {w1 w2 w3 : World} (h : EvY b v1 v2 w1 w2) (k : EvY b v2 v3 w2 w3) : EvY b v1 v3 w1 w3 :=
 ⟨h.fr.thenr k.fr (fun i hi ho => h.own i hi ho), fun i hi ho => h.own i hi (k.own i (Nat.lt_of_lt_of_le hi h.fr.size) ho)⟩
theorem EvY.of_fr0 (h : Fr (fun _ => False) w w') : EvY b vo vo w w' := ⟨h.mono (fun _ _ e => e.elim), fun _ _ h => h⟩
theorem EvY.then0 {w2 : World} (h : EvY b vo vo' w w') (k : Fr (fun _ => False) w' w2) : EvY b vo vo' w w2 := h.trans (EvY.of_fr0 k)
theorem EvY.drew (h : EvY b vo vo' w w') : EvY b vo vo' w w'.drew := ⟨h.fr.drewr, h.own⟩
theorem EvY.alloc (h : EvY b vo vo' w w') (o : Obj) : EvY b vo vo' w (w'.alloc o) := ⟨h.fr.allocr o, h.own⟩
theorem EvY.setOwn (h : EvY b vo vo' w w') (o : Nat) (v : Value) : EvY b vo vo' w (w'.setCell ⟨b, o, none⟩ v) := h.trans ⟨Fr.setCell _ _ _ _ (Or.inl rfl), fun _ _ h => h⟩
theorem EvY.keeps (h : EvY b vo vo' w w') {k : Nat} {c : Array Value} {e : TypeId} (hq : Blk w k c e) (hn : ¬ OwnY b vo k) : Blk w' k c e ∧ ¬ OwnY b vo' k :=
 ⟨hq.fr h.fr hn, fun ho => hn (h.own k hq.lt ho)⟩
end

def bls (a : ByteArray) : List UInt8 := a.data.toList
theorem bls_len (a : ByteArray) : (bls a).length = a.size := rfl
theorem strCells_bls (a : ByteArray) : Go.Lib.strCells a = byV (bls a) := rfl

theorem pyC_setOut (ws : Wp) (p : Py) (vo v : Value) (o : List UInt8) (ho : PyOk p) : (pyC ws p vo).toArray.setIfInBounds 704 v = (pyC ws { p with out := o } v).toArray := by
 have h1 : (pyC ws p vo) = ([ws.v2, ws.v3] ++ (bV p.act ++ mmC p.mm)) ++ (vo :: ws.tl) := by simp [pyC]
 have h2 : (pyC ws { p with out := o } v) = ([ws.v2, ws.v3] ++ (bV p.act ++ mmC p.mm)) ++ (v :: ws.tl) := by simp [pyC]
 have hl : ([ws.v2, ws.v3] ++ (bV p.act ++ mmC p.mm)).length = 704 := by simp [bV_len, mmC_len p.mm ho.le, ho.la, ho.lm]
 apply Array.toList_inj.1
 rw [Array.toList_setIfInBounds, h1, h2]
 simp only [List.toList_toArray]
 rw [List.set_append_right _ _ (by omega), hl]
 simp

theorem PyV.roB {w : World} {b : Nat} {st : List StP} {ws : Wp} {p : Py} {vo : Value} (h : PyV w b st ws p vo) : ∀ k, vo.ownBlock = some k → b + 1 ≤ k ∧ k < w.heap.size := h.ro.lt

set_option maxRecDepth 100000 in
set_option maxHeartbeats 1000000 in
theorem put_any (w : World) (b : Nat) (st : List StP) (ws : Wp) (p : Py) (vo : Value) (a : ByteArray) (hp : PyV w b st ws p vo) (hb : p.out.length + a.size ≤ 70368744177664) :
  Calls Tryz.prog 66 #[.pointer (some ⟨b, 0, none⟩), .string a] w fun e w' => e = .returned (.tuple #[]) ∧ ∃ vo', PyV w' b st ws { p with out := p.out ++ bls a } vo' ∧ EvY b vo vo' w w' := by
 have co := hp.co
 have cz := hp.fz 704
 have hbl := Blk.lt hp.blk
 obtain ⟨va, vc, hvo⟩ := row_lenB hp.ro
 subst hvo
 go_enter Tryz.func66, Tryz.ntmps66
 go_wp2_with (at_builtin; go_must (refine wpList_appendS rfl _ _ _ _ rfl (b + 1) _ elemU8 zeroU8 Tryz.underlying9 _ p.out.length (byV p.out) rfl hp.ro a rfl hb (by omega) ?_); intro ra rc w2 hrow hgrow hold; have hG2 : Fr (fun j => (Value.slice va p.out.length vc).ownBlock = some j) w w2 := Fr.grown (fun j => (Value.slice va p.out.length vc).ownBlock = some j) hgrow (fun _ e => e); have hb2 := Blk.fr hp.blk hG2 (fun e => by have := (hp.roB b e).1; omega); have m2 : w2.cell? ⟨b, 704, none⟩ = some (.slice va p.out.length vc) := by { rw [Blk.cell hb2, ← Blk.cell hp.blk]; exact co }; have mz := Blk.frozen hb2 704)
 go_end0
 refine ⟨rfl, .slice ra (p.out.length + a.size) rc, ⟨?_, ?_, ?_, hp.np, ⟨hp.ok.la, hp.ok.lm, hp.ok.le⟩⟩, ⟨?_, ?_⟩⟩
 ·rw [← pyC_setOut ws p (.slice va p.out.length vc) _ (p.out ++ bls a) hp.ok]
  exact Blk.set hb2 704 _
 ·exact (hp.pl.fr hG2 (fun k hk e => by have := hp.np k hk; have := (hp.roB k e).1; omega)).fr (Fr.setCell (· = b) _ ⟨b, 704, none⟩ _ rfl) (fun k hk e => by have := hp.np k hk; omega)
 ·have h1 := row_frB hrow (Fr.setCell (· = b) w2 ⟨b, 704, none⟩ (.slice ra (p.out.length + a.size) rc) rfl) (fun k hk e => by have := (hrow.lt k hk).1; omega)
  have h2 : (p.out ++ bls a).length = p.out.length + a.size := by simp [bls_len]
  show World.ownsRow _ _ _ _ _ (p.out ++ bls a).length (byV (p.out ++ bls a))
  rw [h2, byV, List.map_append]
  exact h1
 ·exact (hG2.mono (fun k _ e => Or.inr e)).setCellr _ _ (Or.inl (Or.inl rfl))
 ·intro k hk ho
  rcases ho with ho | ho
  ·exact Or.inl ho
  ·exact Or.inr (hold k hk ho)

def enterAt (st : List StP) (k : Nat) : ByteArray := match st[k]? with | some x => x.enter | none => ⟨#[]⟩
def leaveAt (st : List StP) (k : Nat) : ByteArray := match st[k]? with | some x => x.leave | none => ⟨#[]⟩
theorem enterAt_at {st : List StP} {k : Nat} {x : StP} (h : st[k]? = some x) : enterAt st k = x.enter := by simp [enterAt, h]
theorem leaveAt_at {st : List StP} {k : Nat} {x : StP} (h : st[k]? = some x) : leaveAt st k = x.leave := by simp [leaveAt, h]
def SzOk (st : List StP) : Prop := ∀ x ∈ st, x.enter.size ≤ 160 ∧ x.leave.size ≤ 160

def lvF (st : List StP) (left : List Bool) : Nat → Py → Py
 | 0, p => p
 | k + 1, p => lvF st left k (if mem left k = true then { p with act := p.act.set k false, out := p.out ++ bls (leaveAt st k) } else p)

theorem pyC_setAct (ws : Wp) (p : Py) (vo : Value) (k : Nat) (v : Bool) (o : List UInt8) (ho : PyOk p) (hk : k < 26) : (pyC ws p vo).toArray.setIfInBounds (2 + k) (.bool v) = (pyC ws { p with act := p.act.set k v, out := o } vo).toArray := by
 apply Array.toList_inj.1
 rw [Array.toList_setIfInBounds]
 simp only [List.toList_toArray, pyC]
 rw [List.set_append_right _ _ (by simp), List.set_append_left _ _ (by simp [bV_len, ho.la]; omega)]
 simp [bV, List.map_set]
theorem PyV.setAct {w : World} {b : Nat} {st : List StP} {ws : Wp} {p : Py} {vo : Value} (h : PyV w b st ws p vo) (k : Nat) (v : Bool) (hk : k < 26) :
  PyV (w.setCell ⟨b, 2 + k, none⟩ (.bool v)) b st ws { p with act := p.act.set k v } vo where
 blk := by
  rw [show (pyC ws { p with act := p.act.set k v } vo).toArray = (pyC ws p vo).toArray.setIfInBounds (2 + k) (.bool v) from (pyC_setAct ws p vo k v p.out h.ok hk).symm]
  exact Blk.set h.blk (2 + k) _
 pl := h.pl.fr (Fr.setCell (· = b) _ ⟨b, 2 + k, none⟩ _ rfl) (fun k hk e => by have := h.np k hk; omega)
 ro := row_frB h.ro (Fr.setCell (· = b) _ ⟨b, 2 + k, none⟩ _ rfl) (fun k hk e => by have := (h.roB k hk).1; omega)
 np := h.np
 ok := ⟨by simp [h.ok.la], h.ok.lm, h.ok.le⟩

set_option maxRecDepth 100000 in
set_option maxHeartbeats 1000000 in
theorem leave_any (w : World) (b : Nat) (st : List StP) (ws : Wp) (p : Py) (vo : Value) (left : List Bool) (hwf : Wf st) (hsz : SzOk st) (hp : PyV w b st ws p vo) (hl : left.length = 26) (hb : p.out.length ≤ 70000000000000) (hs0 : 0 < st.length) :
  Calls Tryz.prog 92 #[.pointer (some ⟨b, 0, none⟩), setV left] w fun e w' => e = .returned (.tuple #[]) ∧ (lvF st left st.length p).out.length ≤ p.out.length + 4160 ∧ ∃ vo', PyV w' b st ws (lvF st left st.length p) vo' ∧ EvY b vo vo' w w' := by
 unfold setV
 obtain ⟨gg, cc, hv3, hcc, hgl⟩ := row_gg hp.pl hs0
 have hlen := hwf.len
 have hbl := Blk.lt hp.blk
 have hB0 := Blk.new w (bV left).toArray 78
 have hp0 := hp.fr0 (Fr.alloc (fun _ => False) w (.cells (bV left).toArray 78))
 have he0 := (EvY.refl b vo w).alloc (.cells (bV left).toArray 78)
 have HNY : Hid (¬ OwnY b vo w.heap.size) := by
  rintro (h | h)
  ·omega
  ·have := (hp.roB _ h).2; omega
 have c0 := hp.c0
 rw [hv3] at c0
 have HV : Hid (ws.v2 = .slice (some ⟨gg, 0, none⟩) st.length cc) := hv3
 have HL : Hid (left.length = 26) := hl
 have HSZ : Hid (SzOk st) := hsz
 clear hp hv3 hl hsz
 go_enter Tryz.func92, Tryz.ntmps92
 go_wp2_with fail
 have HP0 : Hid (PyV _ b st ws p vo) := hp0
 have HE0 : Hid (EvY b vo vo w _) := he0
 have HB0 : Hid (Blk _ w.heap.size (bV left).toArray 78) := hB0
 clear c0 hp0 he0 hB0
 go_loopg [4] st.length (fun g vs wr => ∃ (k : Nat) (q : Py) (vq : Value), k ≤ st.length ∧ vs = .int .i64 ((k : Int) - 1) ∧ PyV wr b st ws q vq ∧ EvY b vo vq w wr ∧ Blk wr w.heap.size (bV left).toArray 78 ∧ ¬ OwnY b vq w.heap.size ∧ Hid (lvF st left st.length p = lvF st left k q) ∧ q.out.length ≤ p.out.length + (st.length - k) * 160 ∧ k ≤ g)
 case atStart => exact ⟨st.length, p, vo, Nat.le_refl _, rfl, HP0.out, HE0.out, HB0.out, HNY.out, rfl, by omega, Nat.le_refl _⟩
 case round =>
  obtain ⟨k, q, vq, hk, rfl, hpq, heq, hBq, hnq, HF, hq, hg⟩ := hrel
  have hmul : (st.length - k) * 160 ≤ 26 * 160 := Nat.mul_le_mul_right _ (by omega)
  cases k with
  | zero =>
   have HR : Hid (lvF st left st.length p = q) := HF.out
   have hd : decide ((0 : Int) ≤ ((0 : Nat) : Int) - 1) = false := by decide
   clear HF
   go_wp2_with fail
   go_end0
   rw [HR.out]
   exact ⟨rfl, by omega, vq, hpq, heq⟩
  | succ k =>
   have hge : (0 : Int) ≤ ((k + 1 : Nat) : Int) - 1 := by omega
   have hkk : ((k + 1 : Nat) : Int) - 1 = (k : Int) := by omega
   rw [hkk] at hge ⊢
   have cl := mem_cell (k := k) hBq (by rw [HL.out]; omega)
   have hk26 : (k : Int) < 26 := by omega
   cases hm : mem left k with
   | false =>
    have HF2 : Hid (lvF st left st.length p = lvF st left k q) := by show _ = _; rw [HF.out, lvF, if_neg (by simp [hm])]
    rw [hm] at cl
    clear HF hkk
    go_wp2_with fail
    go_roundg k
    case measure => omega
    case rel => exact ⟨k, q, vq, by omega, rfl, hpq, heq, hBq, hnq, HF2, by omega, Nat.le_refl _⟩
   | true =>
    obtain ⟨x, hx⟩ : ∃ x, st[k]? = some x := ⟨_, List.getElem?_eq_getElem (by omega)⟩
    have HF2 : Hid (lvF st left st.length p = lvF st left k { q with act := q.act.set k false, out := q.out ++ bls x.leave }) := by show _ = _; rw [HF.out, lvF, if_pos hm, leaveAt_at hx]
    have hxs := (HSZ.out x (List.mem_of_getElem? hx)).2
    have hr := hpq.pl.r2
    rw [HV.out] at hr
    have x7 := (row_cell hr (k * 10 + 7) _ (by rw [flat_get StP.cells 10 StP.len st k 7 x hx (by omega)]; rfl)).1
    have c0 := hpq.c0
    rw [HV.out] at c0
    have hkl : (k : Int) < st.length := by omega
    rw [hm] at cl
    clear HF hkk hr hx
    go_wp2_with fail
    refine (put_any wr b st ws q vq x.leave hpq (by omega)).mono ?_
    rintro e w2 ⟨rfl, vo2, hp2, he2⟩
    obtain ⟨hB2, hnq2⟩ := he2.keeps hBq hnq
    have ca := hp2.ca k (by omega)
    have cz := hp2.fz (2 + k)
    go_wp2_with fail
    go_roundg k
    case measure => omega
    case rel => exact ⟨k, _, vo2, by omega, rfl, hp2.setAct k false (by omega), (heq.trans he2).setOwn _ _, Blk.other hB2 _ _ (by show w.heap.size ≠ b; omega), hnq2, HF2, by simp [bls_len]; omega, Nat.le_refl _⟩

def rmM (st : List StP) (wh : Bool) (act : List Bool) (i : Nat) : List Bool := if wh = true then actB st act i else noSet.set (inAm st i (actB st act i)) true
def rmS (st : List StP) (left : List Bool) (i : Nat) (p : Py) : Py := match st[i]? with
 | some x => if mem left i = true ∧ x.rem = true then { p with mm := p.mm.set i (rmM st x.wh p.act i) } else p
 | none => p
def rmF (st : List StP) (left : List Bool) : Nat → Py → Py
 | 0, p => p
 | k + 1, p => rmS st left k (rmF st left k p)
theorem mmC_set : ∀ (mm : List (List Bool)) (i : Nat) (m : List Bool), (∀ m ∈ mm, m.length = 26) → m.length = 26 → i < mm.length → ∀ j, (mmC (mm.set i m))[j]? = if i * 26 ≤ j ∧ j < i * 26 + 26 then (bV m)[j - i * 26]? else (mmC mm)[j]?
 | [], i, m, _, _, h, j => by simp at h
 | a :: r, 0, m, hl, hm, h, j => by
  have ha : a.length = 26 := hl a (by simp)
  simp only [List.set_cons_zero, mmC, List.flatMap_cons, Nat.zero_mul, Nat.zero_le, true_and, Nat.zero_add, Nat.sub_zero]
  by_cases hj : j < 26
  ·rw [if_pos hj, List.getElem?_append_left (by rw [bV_len]; omega)]
  ·rw [if_neg hj, List.getElem?_append_right (by rw [bV_len]; omega), List.getElem?_append_right (by rw [bV_len]; omega), bV_len, bV_len, hm, ha]
 | a :: r, i + 1, m, hl, hm, h, j => by
  have ha : a.length = 26 := hl a (by simp)
  simp only [List.set_cons_succ, mmC, List.flatMap_cons]
  by_cases hj : j < 26
  ·rw [if_neg (by omega), List.getElem?_append_left (by rw [bV_len]; omega), List.getElem?_append_left (by rw [bV_len]; omega)]
  ·have ih := mmC_set r i m (fun m hm => hl m (by simp [hm])) hm (by simpa using h) (j - 26)
   rw [List.getElem?_append_right (by rw [bV_len]; omega), List.getElem?_append_right (by rw [bV_len]; omega), bV_len, ha]
   show (mmC (r.set i m))[j - 26]? = _
   rw [ih]
   by_cases hc : i * 26 ≤ j - 26 ∧ j - 26 < i * 26 + 26
   ·rw [if_pos hc, if_pos (by omega), show j - 26 - i * 26 = j - (i + 1) * 26 by omega]
   ·rw [if_neg hc, if_neg (by omega)]; rfl
theorem pyC_setMm (ws : Wp) (p : Py) (vo : Value) (i : Nat) (m : List Bool) (ho : PyOk p) (hi : i < 26) (hm : m.length = 26) : setsA (pyC ws p vo).toArray (28 + i * 26) (bV m) = (pyC ws { p with mm := p.mm.set i m } vo).toArray := by
 apply Array.ext_getElem?
 intro j
 have hl := pyC_len (ws := ws) (vo := vo) ho
 rw [setsA_get _ _ _ _ (by rw [List.size_toArray, hl, bV_len, hm]; omega)]
 have hM := mmC_len p.mm ho.le
 have hM2 : (mmC (p.mm.set i m)).length = p.mm.length * 26 := by
  rw [mmC_len, List.length_set]
  intro x hx
  rcases List.mem_or_eq_of_mem_set hx with h | h
  ·exact ho.le x h
  ·rw [h]; exact hm
 have hlm := ho.lm
 have key := mmC_set p.mm i m ho.le hm (by omega) (j - 28)
 simp only [List.getElem?_toArray, pyC]
 rw [bV_len, hm]
 by_cases h2 : j < 2
 ·rw [if_neg (by omega), List.getElem?_append_left (by simpa using h2), List.getElem?_append_left (by simpa using h2)]
 ·by_cases h28 : j < 28
  ·rw [if_neg (by omega), List.getElem?_append_right (l₁ := [ws.v2, ws.v3]) (by simp; omega), List.getElem?_append_right (l₁ := [ws.v2, ws.v3]) (by simp; omega), List.getElem?_append_left (l₁ := bV p.act) (by simp [bV_len, ho.la]; omega), List.getElem?_append_left (l₁ := bV p.act) (by simp [bV_len, ho.la]; omega)]
  ·rw [List.getElem?_append_right (l₁ := [ws.v2, ws.v3]) (by simp; omega), List.getElem?_append_right (l₁ := [ws.v2, ws.v3]) (by simp; omega), List.getElem?_append_right (l₁ := bV p.act) (by simp [bV_len, ho.la]; omega), List.getElem?_append_right (l₁ := bV p.act) (by simp [bV_len, ho.la]; omega)]
   simp only [List.length_cons, List.length_nil, bV_len, ho.la]
   rw [show j - (0 + 1 + 1) - 26 = j - 28 by omega]
   by_cases h704 : j - 28 < 676
   ·rw [List.getElem?_append_left (l₁ := mmC p.mm) (by omega), List.getElem?_append_left (l₁ := mmC (p.mm.set i m)) (by omega), key]
    by_cases hc : 28 + i * 26 ≤ j ∧ j < 28 + i * 26 + 26
    ·rw [if_pos hc, if_pos (by omega), show j - (28 + i * 26) = j - 28 - i * 26 by omega]
    ·rw [if_neg hc, if_neg (by omega)]
   ·rw [if_neg (by omega), List.getElem?_append_right (l₁ := mmC p.mm) (by omega), List.getElem?_append_right (l₁ := mmC (p.mm.set i m)) (by omega), hM, hM2]
theorem PyV.setMm {w : World} {b : Nat} {st : List StP} {ws : Wp} {p : Py} {vo : Value} (h : PyV w b st ws p vo) (i : Nat) (m : List Bool) (hi : i < 26) (hm : m.length = 26) :
    PyV (w.setCells b (28 + i * 26) (bV m)) b st ws { p with mm := p.mm.set i m } vo := by
  have f : Fr (· = b) w (w.setCells b (28 + i * 26) (bV m)) := Fr.setsr (S := (· = b)) (Or.inl rfl) _ _ (Fr.refl _ _)
  exact { blk := by rw [← pyC_setMm ws p vo i m h.ok hi hm]; exact Blk.sets _ _ h.blk
          pl := h.pl.fr f (fun k hk e => by have := h.np k hk; omega)
          ro := row_frB h.ro f (fun k hk e => by have := (h.roB k hk).1; omega)
          np := h.np
          ok := ⟨h.ok.la, by simp [h.ok.lm], fun x hx => by
            rcases List.mem_or_eq_of_mem_set hx with h' | h'
            · exact h.ok.le x h'
            · rw [h']; exact hm⟩ }


theorem EvY.sets {b : Nat} {vo vo' : Value} {w w' : World} (h : EvY b vo vo' w w') (o : Nat) (vs : List Value) : EvY b vo vo' w (w'.setCells b o vs) := h.trans ⟨Fr.setsr (S := OwnY b vo') (Or.inl (Or.inl rfl)) _ _ (Fr.refl _ _), fun _ _ h => h⟩
theorem inAm_in {st : List StP} (hw : Wf st) {s : Nat} {x : StP} (hx : st[s]? = some x) (hk : x.kind ≠ 0) (l : List Bool) : inAm st s l < 26 := by
 have h3 := hw.en s x hx
 have h4 := hw.inn s x hx hk
 have h5 := hw.len
 unfold inAm
 rcases firstB_spec (inA st s l) (endAt st s) with ⟨h1, -⟩ | ⟨k, h1, h2, -⟩
 ·rw [h1]; show s + 1 < 26; omega
 ·rw [h1]
  rw [endAt_at hx] at h2
  show k < 26
  omega
set_option maxRecDepth 100000 in
set_option maxHeartbeats 1000000 in
theorem remember_any (w : World) (b : Nat) (st : List StP) (ws : Wp) (p : Py) (vo : Value) (left : List Bool) (hwf : Wf st) (hp : PyV w b st ws p vo) (hl : left.length = 26) (hs0 : 0 < st.length) (hrm : ∀ (k : Nat) (x : StP), st[k]? = some x → x.rem = true → x.kind ≠ 0) :
  Calls Tryz.prog 91 #[.pointer (some ⟨b, 0, none⟩), setV left] w fun e w' => e = .returned (.tuple #[]) ∧ PyV w' b st ws (rmF st left st.length p) vo ∧ EvY b vo vo w w' := by
 unfold setV
 obtain ⟨gg, cc, hv3, hcc, hgl⟩ := row_gg hp.pl hs0
 have hlen := hwf.len
 have hbl := Blk.lt hp.blk
 have hB0 := Blk.new w (bV left).toArray 78
 have hp0 := hp.fr0 (Fr.alloc (fun _ => False) w (.cells (bV left).toArray 78))
 have he0 := (EvY.refl b vo w).alloc (.cells (bV left).toArray 78)
 have HNY : Hid (¬ OwnY b vo w.heap.size) := by
  rintro (h | h)
  ·omega
  ·have := (hp.roB _ h).2; omega
 have c0 := hp.c0
 rw [hv3] at c0
 have HV : Hid (ws.v2 = .slice (some ⟨gg, 0, none⟩) st.length cc) := hv3
 have HL : Hid (left.length = 26) := hl
 have HWF : Hid (Wf st) := hwf
 obtain ⟨a3, k3, e3⟩ : ∃ a k, ws.v3 = .slice a ws.th.length k := row_len hp.pl.r3
 have HV3 : Hid (ws.v3 = .slice a3 ws.th.length k3) := e3
 have HVO : Hid (∀ kk, vo.ownBlock = some kk → kk < w.heap.size) := fun kk h => (hp.roB kk h).2
 have HRM : Hid (∀ (k : Nat) (x : StP), st[k]? = some x → x.rem = true → x.kind ≠ 0) := hrm
 clear hp hv3 hl hwf e3 hrm
 go_enter Tryz.func91, Tryz.ntmps91
 go_wp2_with fail
 have HP0 : Hid (PyV _ b st ws p vo) := hp0
 have HE0 : Hid (EvY b vo vo w _) := he0
 have HB0 : Hid (Blk _ w.heap.size (bV left).toArray 78) := hB0
 clear c0 hp0 he0 hB0
 go_loopg [14] (st.length + 1) (fun g vi wr => ∃ k : Nat, k ≤ st.length ∧ vi = .int .i64 k ∧ PyV wr b st ws (rmF st left k p) vo ∧ EvY b vo vo w wr ∧ Blk wr w.heap.size (bV left).toArray 78 ∧ st.length + 1 - k ≤ g)
 case atStart => exact ⟨0, Nat.zero_le _, rfl, HP0.out, HE0.out, HB0.out, Nat.le_refl _⟩
 case round =>
  obtain ⟨k, hk, rfl, hpq, heq, hBq, hg⟩ := hrel
  have hBl := Blk.lt hBq
  by_cases hlt : (k : Int) < st.length
  ·obtain ⟨x, hx⟩ : ∃ x, st[k]? = some x := ⟨_, List.getElem?_eq_getElem (by omega)⟩
   have hr := hpq.pl.r2
   rw [HV.out] at hr
   obtain ⟨x0, x1, x2, x3, x4, x5, x6, x7, x8, x9⟩ := st10 hr hx
   have hggl : gg < wr.heap.size := (hr.lt gg rfl).2
   have cl := mem_cell (k := k) hBq (by rw [HL.out]; omega)
   have hk26 : (k : Int) < 26 := by omega
   have HX : Hid (st[k]? = some x) := hx
   have HS : Hid (rmF st left (k + 1) p = rmS st left k (rmF st left k p)) := rfl
   generalize rmF st left k p = q at *
   clear hr hx
   cases hm : mem left k with
   | false =>
    have HR : Hid (rmF st left (k + 1) p = q) := by show _ = _; rw [HS.out, rmS, HX.out]; simp only; rw [if_neg (by simp [hm])]
    rw [hm] at cl
    clear HS
    go_wp2_with fail
    go_roundg (st.length + 1 - (k + 1))
    case measure => omega
    case rel => exact ⟨k + 1, by omega, by go_num, by rw [HR.out]; exact hpq.fr0 (Fr.alloc _ _ _), heq.alloc _, Blk.alloc hBq _, Nat.le_refl _⟩
   | true =>
    cases hrm : x.rem with
    | false =>
     have HR : Hid (rmF st left (k + 1) p = q) := by show _ = _; rw [HS.out, rmS, HX.out]; simp only; rw [if_neg (by simp [hrm])]
     rw [hm] at cl
     rw [hrm] at x8
     clear HS
     go_wp2_with fail
     go_roundg (st.length + 1 - (k + 1))
     case measure => omega
     case rel => exact ⟨k + 1, by omega, by go_num, by rw [HR.out]; exact hpq.fr0 (Fr.alloc _ _ _), heq.alloc _, Blk.alloc hBq _, Nat.le_refl _⟩
    | true =>
     have HR : Hid (rmF st left (k + 1) p = { q with mm := q.mm.set k (rmM st x.wh q.act k) }) := by show _ = _; rw [HS.out, rmS, HX.out]; simp only; rw [if_pos ⟨hm, hrm⟩]
     rw [hm] at cl
     rw [hrm] at x8
     clear HS
     cases hwh : x.wh with
     | true =>
      have HR2 : Hid (rmF st left (k + 1) p = { q with mm := q.mm.set k (actB st q.act k) }) := by show _ = _; rw [HR.out, rmM, if_pos hwh]
      rw [hwh] at x9
      clear HR
      go_wp2_with fail
      refine (activeBelow_any _ b st ws q vo k HWF.out (hpq.fr0 (Fr.alloc _ _ _)) (by omega)).mono ?_
      rintro e w2 ⟨rfl, hf2⟩
      have hml : (actB st q.act k).length = 26 := belK_len _ _ _
      obtain ⟨m, hm2⟩ : ∃ m, actB st q.act k = m := ⟨_, rfl⟩
      have HM : Hid (actB st q.act k = m) := hm2
      rw [hm2] at hml ⊢
      clear hm2
      unfold setV
      have hpq2 := hpq.fr0 ((Fr.alloc (fun _ => False) _ _).thenr hf2 (fun _ _ h => h))
      have heq2 := (heq.alloc _).then0 hf2
      have hBq2 := Blk.fr (Blk.alloc hBq _) hf2 (fun h => h)
      have hSb := Blk.fr (Blk.new wr #[Value.int IntKind.u8 x.name.toNat, Value.int IntKind.i64 x.place, Value.int IntKind.i64 x.depth, Value.int IntKind.i64 x.kind, Value.int IntKind.i64 x.outer, Value.int IntKind.i64 x.end_, Value.string x.enter, Value.string x.leave, Value.bool true, Value.bool true] 115) hf2 (fun h => h)
      have hbl2 := Blk.lt hpq2.blk
      have hSl := Blk.lt hSb
      have hBl2 := Blk.lt hBq2
      have hthL : (w2.alloc (.cells (#[.bool false, .bool false, .bool false, .bool false, .bool false, .bool false, .bool false, .bool false, .bool false, .bool false, .bool false, .bool false, .bool false, .bool false, .bool false, .bool false, .bool false, .bool false, .bool false, .bool false, .bool false, .bool false, .bool false, .bool false, .bool false, .bool false] : Array Value) 78)).there w2.heap.size 0 (bV m).toArray.size := there_of (Blk.new _ _ _) 0 (by simp [bV, hml])
      have hbL : Blk ((w2.alloc (.cells (#[.bool false, .bool false, .bool false, .bool false, .bool false, .bool false, .bool false, .bool false, .bool false, .bool false, .bool false, .bool false, .bool false, .bool false, .bool false, .bool false, .bool false, .bool false, .bool false, .bool false, .bool false, .bool false, .bool false, .bool false, .bool false, .bool false] : Array Value) 78)).setCells w2.heap.size 0 (bV m)) w2.heap.size (bV m).toArray 78 := by
       rw [← setsA_all (#[.bool false, .bool false, .bool false, .bool false, .bool false, .bool false, .bool false, .bool false, .bool false, .bool false, .bool false, .bool false, .bool false, .bool false, .bool false, .bool false, .bool false, .bool false, .bool false, .bool false, .bool false, .bool false, .bool false, .bool false, .bool false, .bool false] : Array Value) (bV m) (by simp [bV, hml])]; exact Blk.sets _ 0 (Blk.new _ _ _)
      have hfL : Fr (fun _ => False) w2 ((w2.alloc (.cells (#[.bool false, .bool false, .bool false, .bool false, .bool false, .bool false, .bool false, .bool false, .bool false, .bool false, .bool false, .bool false, .bool false, .bool false, .bool false, .bool false, .bool false, .bool false, .bool false, .bool false, .bool false, .bool false, .bool false, .bool false, .bool false, .bool false] : Array Value) 78)).setCells w2.heap.size 0 (bV m)) := Fr.setsr (Or.inr (Nat.le_refl _)) _ 0 (by (repeat (first | exact Fr.refl _ _ | assumption | refine Fr.drewNr ?_ _ | refine Fr.drewr ?_ | refine Fr.allocr ?_ _ | refine Fr.setCellr ?_ _ _ (by first | exact Or.inl rfl | (right; simp; done) | (right; simp; omega)))))
      have hSb3 := Blk.fr hSb hfL (fun h => h)
      have s9 : ((w2.alloc (.cells (#[.bool false, .bool false, .bool false, .bool false, .bool false, .bool false, .bool false, .bool false, .bool false, .bool false, .bool false, .bool false, .bool false, .bool false, .bool false, .bool false, .bool false, .bool false, .bool false, .bool false, .bool false, .bool false, .bool false, .bool false, .bool false, .bool false] : Array Value) 78)).setCells w2.heap.size 0 (bV m)).cell? ⟨wr.heap.size, 9, none⟩ = some (.bool true) := by rw [Blk.cell hSb3]; rfl
      have inM := setInfo hml
      have inM' := setInfo' hml
      have oneM := one_bV m
      clear x0 x1 x2 x3 x4 x5 x6 x7 x8 x9 cl hpq heq hBq hf2 hSb
      go_wp2_with (first | (refine wpList_load_mid rfl 78 _ rfl _ _ rfl _ _ (by assumption) Tryz.underlying78 rfl (by assumption) ?_) | (refine wpList_store_mid rfl 78 _ _ rfl _ _ _ rfl rfl (by assumption) (by assumption) (by assumption) ?_))
      have hpq3 := hpq2.fr0 hfL
      have heq3 := heq2.then0 hfL
      have hBq3 := Blk.fr hBq2 hfL (fun h => h)
      generalize ((w2.alloc (.cells (#[.bool false, .bool false, .bool false, .bool false, .bool false, .bool false, .bool false, .bool false, .bool false, .bool false, .bool false, .bool false, .bool false, .bool false, .bool false, .bool false, .bool false, .bool false, .bool false, .bool false, .bool false, .bool false, .bool false, .bool false, .bool false, .bool false] : Array Value) 78)).setCells w2.heap.size 0 (bV m)) = w3 at *
      clear s9 hthL hpq2 heq2 hBq2 hfL
      have raL := rangeB hbL
      have thB : w3.there b (28 + k * 26) (bV m).toArray.size := there_of hpq3.blk (28 + k * 26) (by rw [List.size_toArray, List.size_toArray, pyC_len hpq3.ok, bV_len, hml]; omega)
      have thB' : w3.there b (28 + k * 26) 26 := by simpa [bV, hml] using thB
      have hu73 := Tryz.underlying78
      have oneL : ∀ v ∈ bV m, v.oneCell' = true := by intro v hv; simp only [bV, List.mem_map] at hv; obtain ⟨_, _, rfl⟩ := hv; rfl
      have lenL : (bV m).length = 26 := by rw [bV_len, hml]
      have hk0 : (0 : Int) ≤ (k : Int) := by omega
      go_region_held3 (fun w' => w'.rangeAt w2.heap.size 0 (bV m) ∧ w'.there b (28 + k * 26) 26) (go_keep_ranges) (fail)
      all_goals
       go_wp2_with fail
       go_roundg (st.length + 1 - (k + 1))
       case measure => omega
       case rel => exact ⟨k + 1, by omega, by go_num, (by rw [HR2.out, HM.out]; exact (hpq3.fr0 (Fr.drew _ _)).setMm k m (by omega) hml), (heq3.drew).sets _ _, Blk.fr hBq3.drew (Fr.setsr (S := (· = b)) (Or.inl rfl) _ _ (Fr.refl _ _)) (by omega), Nat.le_refl _⟩
     | false =>
      have HR2 : Hid (rmF st left (k + 1) p = { q with mm := q.mm.set k (noSet.set (inAm st k (actB st q.act k)) true) }) := by show _ = _; rw [HR.out, rmM, if_neg (by simp [hwh])]
      have HIN : Hid (∀ l, inAm st k l < 26) := fun l => inAm_in HWF.out HX.out (HRM.out k x HX.out hrm) l
      have heqS : Hid (w.heap.size ≤ wr.heap.size) := heq.fr.size
      rw [hwh] at x9
      clear HR
      go_wp2_with fail
      refine (activeBelow_any _ b st ws q vo k HWF.out (hpq.fr0 (Fr.alloc _ _ _)) (by omega)).mono ?_
      rintro e w2 ⟨rfl, hf2⟩
      have hml : (actB st q.act k).length = 26 := belK_len _ _ _
      obtain ⟨m, hm2⟩ : ∃ m, actB st q.act k = m := ⟨_, rfl⟩
      have HM : Hid (actB st q.act k = m) := hm2
      rw [hm2] at hml ⊢
      clear hm2
      unfold setV
      have hpq2 := hpq.fr0 ((Fr.alloc (fun _ => False) _ _).thenr hf2 (fun _ _ h => h))
      have heq2 := (heq.alloc _).then0 hf2
      have hBq2 := Blk.fr (Blk.alloc hBq _) hf2 (fun h => h)
      have hSb := Blk.fr (Blk.new wr #[Value.int IntKind.u8 x.name.toNat, Value.int IntKind.i64 x.place, Value.int IntKind.i64 x.depth, Value.int IntKind.i64 x.kind, Value.int IntKind.i64 x.outer, Value.int IntKind.i64 x.end_, Value.string x.enter, Value.string x.leave, Value.bool true, Value.bool false] 115) hf2 (fun h => h)
      have hbl2 := Blk.lt hpq2.blk
      have hSl := Blk.lt hSb
      have hBl2 := Blk.lt hBq2
      have hthL : (w2.alloc (.cells (#[.bool false, .bool false, .bool false, .bool false, .bool false, .bool false, .bool false, .bool false, .bool false, .bool false, .bool false, .bool false, .bool false, .bool false, .bool false, .bool false, .bool false, .bool false, .bool false, .bool false, .bool false, .bool false, .bool false, .bool false, .bool false, .bool false] : Array Value) 78)).there w2.heap.size 0 (bV m).toArray.size := there_of (Blk.new _ _ _) 0 (by simp [bV, hml])
      have hbL : Blk ((w2.alloc (.cells (#[.bool false, .bool false, .bool false, .bool false, .bool false, .bool false, .bool false, .bool false, .bool false, .bool false, .bool false, .bool false, .bool false, .bool false, .bool false, .bool false, .bool false, .bool false, .bool false, .bool false, .bool false, .bool false, .bool false, .bool false, .bool false, .bool false] : Array Value) 78)).setCells w2.heap.size 0 (bV m)) w2.heap.size (bV m).toArray 78 := by
       rw [← setsA_all (#[.bool false, .bool false, .bool false, .bool false, .bool false, .bool false, .bool false, .bool false, .bool false, .bool false, .bool false, .bool false, .bool false, .bool false, .bool false, .bool false, .bool false, .bool false, .bool false, .bool false, .bool false, .bool false, .bool false, .bool false, .bool false, .bool false] : Array Value) (bV m) (by simp [bV, hml])]; exact Blk.sets _ 0 (Blk.new _ _ _)
      have hfL : Fr (fun _ => False) w2 ((w2.alloc (.cells (#[.bool false, .bool false, .bool false, .bool false, .bool false, .bool false, .bool false, .bool false, .bool false, .bool false, .bool false, .bool false, .bool false, .bool false, .bool false, .bool false, .bool false, .bool false, .bool false, .bool false, .bool false, .bool false, .bool false, .bool false, .bool false, .bool false] : Array Value) 78)).setCells w2.heap.size 0 (bV m)) := Fr.setsr (Or.inr (Nat.le_refl _)) _ 0 (by (repeat (first | exact Fr.refl _ _ | assumption | refine Fr.drewNr ?_ _ | refine Fr.drewr ?_ | refine Fr.allocr ?_ _ | refine Fr.setCellr ?_ _ _ (by first | exact Or.inl rfl | (right; simp; done) | (right; simp; omega)))))
      have hSb3 := Blk.fr hSb hfL (fun h => h)
      have s9 : ((w2.alloc (.cells (#[.bool false, .bool false, .bool false, .bool false, .bool false, .bool false, .bool false, .bool false, .bool false, .bool false, .bool false, .bool false, .bool false, .bool false, .bool false, .bool false, .bool false, .bool false, .bool false, .bool false, .bool false, .bool false, .bool false, .bool false, .bool false, .bool false] : Array Value) 78)).setCells w2.heap.size 0 (bV m)).cell? ⟨wr.heap.size, 9, none⟩ = some (.bool false) := by rw [Blk.cell hSb3]; rfl
      have inM := setInfo hml
      have inM' := setInfo' hml
      have oneM := one_bV m
      clear x0 x1 x2 x3 x4 x5 x6 x7 x8 x9 cl hpq heq hBq hf2 hSb
      go_wp2_with (first | (refine wpList_load_mid rfl 78 _ rfl _ _ rfl _ _ (by assumption) Tryz.underlying78 rfl (by assumption) ?_) | (refine wpList_store_mid rfl 78 _ _ rfl _ _ _ rfl rfl (by assumption) (by assumption) (by assumption) ?_))
      have hpq3 := hpq2.fr0 hfL
      have heq3 := heq2.then0 hfL
      have hBq3 := Blk.fr hBq2 hfL (fun h => h)
      generalize ((w2.alloc (.cells (#[.bool false, .bool false, .bool false, .bool false, .bool false, .bool false, .bool false, .bool false, .bool false, .bool false, .bool false, .bool false, .bool false, .bool false, .bool false, .bool false, .bool false, .bool false, .bool false, .bool false, .bool false, .bool false, .bool false, .bool false, .bool false, .bool false] : Array Value) 78)).setCells w2.heap.size 0 (bV m)) = w3 at *
      clear s9 hthL hpq2 heq2 hBq2 hfL
      have HRO : Hid (∀ kk, vo.ownBlock = some kk → kk < w2.heap.size) := fun kk h => by have h1 := (HVO.out kk h); have := heqS.out; omega
      have HSZ2 : Hid (w.heap.size ≤ w2.heap.size) := by show _ ≤ _; omega
      have HIA : Hid (∀ W, PlR W st ws → Calls Tryz.prog 82 #[.agg #[.slice (some ⟨gg, 0, none⟩) st.length cc, .slice a3 ws.th.length k3], .int .i64 k, .agg (bV m).toArray] W fun e w' => e = .returned (.int .i64 (inAm st k m)) ∧ Fr (fun _ => False) W w') := by
       intro W hW
       have := innerAmong_any W st ws k m HWF.out hW (by omega) hml
       rw [HV.out, HV3.out] at this
       exact this
      have d0 := hpq3.c0
      have d1 := hpq3.c1
      rw [HV.out] at d0
      rw [HV3.out] at d1
      have raL := rangeB hbL
      have hu73 := Tryz.underlying78
      have oneL : ∀ v ∈ bV m, v.oneCell' = true := by intro v hv; simp only [bV, List.mem_map] at hv; obtain ⟨_, _, rfl⟩ := hv; rfl
      have lenL : (bV m).length = 26 := by rw [bV_len, hml]
      have HKS : Hid (∀ w4, Fr (fun _ => False) w3.drew w4 → w4.cell? ⟨b, 0, none⟩ = some (.slice (some ⟨gg, 0, none⟩) st.length cc) ∧ w4.cell? ⟨b, 1, none⟩ = some (.slice a3 ws.th.length k3) ∧ w4.rangeAt w2.heap.size 0 (bV m)) := by
       intro w4 hf
       have h1 := (hpq3.fr0 (Fr.drew _ _)).fr0 hf
       refine ⟨by rw [← HV.out]; exact h1.c0, by rw [← HV3.out]; exact h1.c1, rangeB (Blk.fr hbL.drew hf (fun h => h))⟩
      have HPL : Hid (PlR w3.drew st ws) := (hpq3.fr0 (Fr.drew _ _)).pl
      go_region_held3 (fun w' => w'.cell? ⟨b, 0, none⟩ = some (.slice (some ⟨gg, 0, none⟩) st.length cc) ∧ w'.cell? ⟨b, 1, none⟩ = some (.slice a3 ws.th.length k3) ∧ w'.rangeAt w2.heap.size 0 (bV m)) (first | assumption | go_keep_ranges) (first | (go_at_call 82; refine Calls.mono (HIA.out _ HPL.out) ?_; rintro e w4 ⟨rfl, hf4⟩; have hS4 := HKS.out w4 hf4))
      all_goals
       clear hS4 d0 d1 raL oneL lenL
       have hin26 : inAm st k m < 26 := HIN.out m
       have hpq4 := (hpq3.fr0 (Fr.drew _ _)).fr0 hf4
       have heq4 := (heq3.drew).then0 hf4
       have hBq4 := Blk.fr hBq3.drew hf4 (fun h => h)
       have hb4 := Blk.fr hbL.drew hf4 (fun h => h)
       have hbl4 := Blk.lt hpq4.blk
       have hBl4 := Blk.lt hBq4
       have hml4 := Blk.lt hb4
       have thZ : w4.there w2.heap.size 0 (bV noSet).toArray.size := there_of hb4 0 (by simp [bV, noSet, hml])
       have infZ : (Tryz.prog.info? 78).map (·.size) = some (bV noSet).toArray.size := setInfo' (l := noSet) rfl
       have oneZ : (bV noSet).toArray.all (·.oneCell') = true := one_bV noSet
       have HB5 : Hid (Blk (w4.setCells w2.heap.size 0 (bV noSet)) w2.heap.size (bV noSet).toArray 78) := by
        have h1 := Blk.sets (bV noSet) 0 hb4
        rw [setsA_all _ _ (by simp [bV, noSet, hml])] at h1
        exact h1
       have HF5 : Hid (Fr (· = w2.heap.size) w4 (w4.setCells w2.heap.size 0 (bV noSet))) := Fr.setsr (S := (· = w2.heap.size)) (Or.inl rfl) _ _ (Fr.refl _ _)
       go_upto_region 9 with (refine wpList_store_mid rfl 78 _ _ rfl _ _ (bV noSet).toArray rfl rfl thZ infZ oneZ ?_)
       have hb5 := HB5.out
       have hf5 := HF5.out
       clear HB5 HF5 thZ infZ oneZ
       generalize w4.setCells w2.heap.size 0 (bV noSet) = w5 at hb5 hf5 ⊢
       have z5 : w5.cell? ⟨w2.heap.size, inAm st k m, none⟩ = some (.bool (mem noSet (inAm st k m))) := mem_cell hb5 (by show _ < 26; exact hin26)
       have zz5 := Blk.frozen hb5 (inAm st k m)
       have hinI : ((inAm st k m : Nat) : Int) < 26 := by omega
       have hb6 : Blk (w5.setCell ⟨w2.heap.size, inAm st k m, none⟩ (.bool true)) w2.heap.size (bV (noSet.set (inAm st k m) true)).toArray 78 := by
        have h1 := Blk.set hb5 (inAm st k m) (.bool true)
        have h2 : (bV noSet).toArray.setIfInBounds (inAm st k m) (.bool true) = (bV (noSet.set (inAm st k m) true)).toArray := by
         apply Array.toList_inj.1
         rw [Array.toList_setIfInBounds]
         simp [bV, List.map_set]
        rw [h2] at h1
        exact h1
       have hne : w2.heap.size ≠ b := by omega
       have hf6 : Fr (· = w2.heap.size) w4 (w5.setCell ⟨w2.heap.size, inAm st k m, none⟩ (.bool true)) := hf5.setCellr _ _ (Or.inl rfl)
       have HB6 : Hid (Blk (w5.setCell ⟨w2.heap.size, inAm st k m, none⟩ (.bool true)) w2.heap.size (bV (noSet.set (inAm st k m) true)).toArray 78) := hb6
       have HF6 : Hid (Fr (· = w2.heap.size) w4 (w5.setCell ⟨w2.heap.size, inAm st k m, none⟩ (.bool true))) := hf6
       clear hb5 hf5 hb6 hf6
       go_wp2_with fail
       have hb6 := HB6.out
       have hf6 := HF6.out
       clear HB6 HF6 z5 zz5
       have hmm6 : (noSet.set (inAm st k m) true).length = 26 := by simp [noSet]
       have hy26 : ∀ kk, OwnY b vo kk ∨ OwnP ws kk → ¬ kk = w2.heap.size := by
        rintro kk ((h | h) | h) e
        ·omega
        ·have := (HRO.out kk h); omega
        ·have := hpq3.np kk h; omega
       have hpq6 := hpq4.fr hf6 hy26
       have heq6 : EvY b vo vo w (w5.setCell ⟨w2.heap.size, inAm st k m, none⟩ (.bool true)) := ⟨heq4.fr.thenr hf6 (fun i hi e => by have := heq4.fr.size; have := HSZ2.out; omega), heq4.own⟩
       have hBq6 := Blk.fr hBq4 hf6 (by omega)
       generalize hW6 : (w5.setCell ⟨w2.heap.size, inAm st k m, none⟩ (.bool true)) = w6 at *
       clear hW6
       have inM6 := setInfo hmm6
       have inM6' := setInfo' hmm6
       have oneM6 := one_bV (noSet.set (inAm st k m) true)
       have HMI : Hid (noSet.set (inAm st k (actB st q.act k)) true = noSet.set (inAm st k m) true) := by show _ = _; rw [HM.out]
       generalize noSet.set (inAm st k m) true = m6 at *
       have raL := rangeB hb6
       have thB : w6.there b (28 + k * 26) (bV m6).toArray.size := there_of hpq6.blk (28 + k * 26) (by rw [List.size_toArray, List.size_toArray, pyC_len hpq6.ok, bV_len, hmm6]; omega)
       have thB' : w6.there b (28 + k * 26) 26 := by simpa [bV, hmm6] using thB
       have hu73 := Tryz.underlying78
       have oneL : ∀ v ∈ bV m6, v.oneCell' = true := by intro v hv; simp only [bV, List.mem_map] at hv; obtain ⟨_, _, rfl⟩ := hv; rfl
       have lenL : (bV m6).length = 26 := by rw [bV_len, hmm6]
       have hk0 : (0 : Int) ≤ (k : Int) := by omega
       go_region_held3 (fun w' => w'.rangeAt w2.heap.size 0 (bV m6) ∧ w'.there b (28 + k * 26) 26) (go_keep_ranges) (fail)
       all_goals
        go_wp2_with fail
        go_roundg (st.length + 1 - (k + 1))
        case measure => omega
        case rel => exact ⟨k + 1, by omega, by go_num, (by rw [HR2.out, HMI.out]; exact (hpq6.fr0 (Fr.drew _ _)).setMm k m6 (by omega) hmm6), (heq6.drew).sets _ _, Blk.fr hBq6.drew (Fr.setsr (S := (· = b)) (Or.inl rfl) _ _ (Fr.refl _ _)) (by omega), Nat.le_refl _⟩
  ·have hke : k = st.length := by omega
   subst hke
   go_wp2_with fail
   go_end0
   exact ⟨rfl, hpq, heq⟩
end Go.Proofs.YtmolmbeeoecnfaaGreatDoor
