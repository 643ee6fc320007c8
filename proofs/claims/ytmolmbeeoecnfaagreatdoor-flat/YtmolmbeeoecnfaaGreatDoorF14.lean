/- Own work: PyZ2. -/
import Derived.Test.YtmolmbeeoecnfaaGreatDoorF13
import Derived.Deep.RegionWith
/- Own work: walks of the player: leftBy, hold, firstPossible, calledFrom. -/
namespace Go.Proofs.YtmolmbeeoecnfaaGreatDoor
open Go.RowKit Go.BigFrame
set_option linter.unusedVariables false
set_option linter.unusedSimpArgs false

def lefB (st : List StP) (act : List Bool) (t : TrQ) : List Bool := if scOf st t = -1 then act else actB st act (scOf st t).toNat
theorem lefB_len (st : List StP) (act : List Bool) (t : TrQ) (h : act.length = 26) : (lefB st act t).length = 26 := by
 unfold lefB; split
 ·exact h
 ·exact belK_len _ _ _
theorem scOf_bd (st : List StP) (hw : Wf st) (t : TrQ) (ht : TrOk st t) : -1 ≤ scOf st t ∧ scOf st t < st.length := by
 have e := outAt_at (List.getElem?_eq_getElem ht.1)
 have h := hw.ou _ _ (List.getElem?_eq_getElem ht.1)
 have := ht.1
 exact scF_bd st hw _ _ _ (by omega) (by omega)

set_option maxRecDepth 100000 in
set_option maxHeartbeats 1000000 in
theorem leftBy_any (w : World) (b : Nat) (st : List StP) (ws : Wp) (p : Py) (vo : Value) (t : TrH) (hwf : Wf st) (hp : PyV w b st ws p vo) (ht : TrOk st t.q) :
  Calls Tryz.prog 88 #[.pointer (some ⟨b, 0, none⟩), .agg t.cells.toArray] w fun e w' => e = .returned (setV (lefB st p.act t.q)) ∧ Fr (fun _ => False) w w' := by
 have hbd := scOf_bd st hwf t.q ht
 have HW : Hid (Wf st) := hwf
 have HT : Hid (TrOk st t.q) := ht
 have b1 : Blk ((w.alloc (.cells t.cells.toArray 121)).alloc (.cells (#[.bool false, .bool false, .bool false, .bool false, .bool false, .bool false, .bool false, .bool false, .bool false, .bool false, .bool false, .bool false, .bool false, .bool false, .bool false, .bool false, .bool false, .bool false, .bool false, .bool false, .bool false, .bool false, .bool false, .bool false, .bool false, .bool false] : Array Value) 78)) (w.heap.size + 1) (#[.bool false, .bool false, .bool false, .bool false, .bool false, .bool false, .bool false, .bool false, .bool false, .bool false, .bool false, .bool false, .bool false, .bool false, .bool false, .bool false, .bool false, .bool false, .bool false, .bool false, .bool false, .bool false, .bool false, .bool false, .bool false, .bool false] : Array Value) 78 := Blk.new' _ _ _ _ (by simp)
 have hfw : Fr (fun _ => False) w ((w.alloc (.cells t.cells.toArray 121)).alloc (.cells (#[.bool false, .bool false, .bool false, .bool false, .bool false, .bool false, .bool false, .bool false, .bool false, .bool false, .bool false, .bool false, .bool false, .bool false, .bool false, .bool false, .bool false, .bool false, .bool false, .bool false, .bool false, .bool false, .bool false, .bool false, .bool false, .bool false] : Array Value) 78)) := by (repeat (first | exact Fr.refl _ _ | assumption | refine Fr.drewNr ?_ _ | refine Fr.drewr ?_ | refine Fr.allocr ?_ _ | refine Fr.setCellr ?_ _ _ (by first | exact Or.inl rfl | (right; simp; done) | (right; simp; omega))))
 have hp1 := hp.fr0 hfw
 have c0 := hp1.c0
 have c1 := hp1.c1
 have HSC : Hid (∀ W, PlR W st ws → Calls Tryz.prog 93 #[.agg #[ws.v2, ws.v3], .agg #[.int .i64 t.q.own, .int .u8 t.q.event.toNat, t.cv, .int .u8 t.q.tn.toNat, .int .i64 t.q.tp, .int .i64 t.q.ts, .int .u8 t.q.mark.toNat, .int .i64 t.q.mp, .string t.q.acts]] W fun e w' => e = .returned (.int .i64 (scOf st t.q)) ∧ Fr (fun _ => False) W w') := fun W h => scope_any W st ws t hwf h ht
 clear hwf ht
 have q : t.cells.toArray = #[.int .i64 t.q.own, .int .u8 t.q.event.toNat, t.cv, .int .u8 t.q.tn.toNat, .int .i64 t.q.tp, .int .i64 t.q.ts, .int .u8 t.q.mark.toNat, .int .i64 t.q.mp, .string t.q.acts] := rfl
 rw [q] at b1 hfw hp1 c0 c1 ⊢
 clear q
 go_enter Tryz.func88, Tryz.ntmps88
 go_wp2_with fail
 go_region_with (go_at_call 93; refine Calls.mono (HSC.out _ ?_) ?_; exact hp1.pl.fr0 (Fr.drew _ _); rintro e w1 ⟨rfl, hf1⟩)
 all_goals
  have hfo := hfw.drewr.thenr hf1 (fun _ _ h => h)
  have hb1 := Blk.fr b1.drew hf1 (fun h => h)
  have hp2 := hp.fr0 hfo
  have hla := hp.ok.la
  clear b1 hfw hp1 c0 c1 hf1
  by_cases h1 : scOf st t.q = -1
  ·have HM : Hid (lefB st p.act t.q = p.act) := by show _ = _; rw [lefB, if_pos h1]
   have hra := hp2.ra
   have hin := setInfo hla
   have hin' := setInfo' hla
   have hone := one_bV p.act
   have hth : w1.there (w.heap.size + 1) 0 (bV p.act).toArray.size := there_of hb1 0 (by simp [bV, hla])
   rw [h1]
   clear hp
   go_wp2_with (first | (refine wpList_load_mid rfl 78 _ rfl _ _ rfl _ _ (by assumption) Tryz.underlying78 rfl (by assumption) ?_) | (refine wpList_store_mid rfl 78 _ _ rfl _ _ _ rfl rfl (by assumption) (by assumption) (by assumption) ?_))
   have hbz : Blk (w1.setCells (w.heap.size + 1) 0 (bV p.act)) (w.heap.size + 1) (bV p.act).toArray 78 := by
    rw [← setsA_all (#[.bool false, .bool false, .bool false, .bool false, .bool false, .bool false, .bool false, .bool false, .bool false, .bool false, .bool false, .bool false, .bool false, .bool false, .bool false, .bool false, .bool false, .bool false, .bool false, .bool false, .bool false, .bool false, .bool false, .bool false, .bool false, .bool false] : Array Value) (bV p.act) (by simp [bV, hla])]; exact Blk.sets _ 0 hb1
   refine bodyPost_ret (v := setV p.act) (ret_setC rfl rfl hbz hla) rfl ⟨by rw [HM.out], ?_⟩
   exact Fr.setsr (Or.inr (by omega)) _ 0 hfo
  ·obtain ⟨k, hk⟩ : ∃ k : Nat, scOf st t.q = k := ⟨(scOf st t.q).toNat, by omega⟩
   have HM : Hid (lefB st p.act t.q = actB st p.act k) := by show _ = _; rw [lefB, if_neg h1, hk]; rfl
   have hne : ((k : Int) == -1) = false := by rw [beq_eq_false_iff_ne]; omega
   rw [hk]
   go_wp2_with fail
   refine (activeBelow_any w1 b st ws p vo k HW.out hp2 (by omega)).mono ?_
   rintro e w2 ⟨rfl, hf2⟩
   have hfo2 := hfo.thenr hf2 (fun _ _ h => h)
   have hb2 := Blk.fr hb1 hf2 (fun h => h)
   have hal : (actB st p.act k).length = 26 := belK_len _ _ _
   obtain ⟨m, hm⟩ : ∃ m, actB st p.act k = m := ⟨_, rfl⟩
   rw [hm] at hal HM ⊢
   clear hm hp hp2
   have hin' := setInfo' hal
   have hone := one_bV m
   have hth : w2.there (w.heap.size + 1) 0 (bV m).toArray.size := there_of hb2 0 (by simp [bV, hal])
   unfold setV
   go_wp2_with (refine wpList_store_mid rfl 78 _ _ rfl _ _ _ rfl rfl (by assumption) (by assumption) (by assumption) ?_)
   have hbz : Blk (w2.setCells (w.heap.size + 1) 0 (bV m)) (w.heap.size + 1) (bV m).toArray 78 := by
    rw [← setsA_all (#[.bool false, .bool false, .bool false, .bool false, .bool false, .bool false, .bool false, .bool false, .bool false, .bool false, .bool false, .bool false, .bool false, .bool false, .bool false, .bool false, .bool false, .bool false, .bool false, .bool false, .bool false, .bool false, .bool false, .bool false, .bool false, .bool false] : Array Value) (bV m) (by simp [bV, hal])]; exact Blk.sets _ 0 hb2
   refine bodyPost_ret (v := setV m) (ret_setC rfl rfl hbz hal) rfl ⟨by rw [HM.out], ?_⟩
   exact Fr.setsr (Or.inr (by omega)) _ 0 hfo2

def CdOn (cs : List CdP) : Prop := ∀ c ∈ cs, 0 ≤ c.state ∧ c.state < 26
def fails (act : List Bool) (cs : List CdP) (k : Nat) : Bool := match cs[k]? with | some c => mem act c.state.toNat != c.active | none => false
def holdB (act : List Bool) (cs : List CdP) : Bool := (firstB (fails act cs) cs.length).isNone

set_option maxRecDepth 100000 in
set_option maxHeartbeats 1000000 in
theorem hold_any (w : World) (b : Nat) (st : List StP) (ws : Wp) (p : Py) (vo : Value) (cv : Value) (cs : List CdP) (hp : PyV w b st ws p vo) (hc : w.ownsRow 0 123 4 cv cs.length (cs.flatMap CdP.cells)) (hs : CdOn cs) (hl : cs.length ≤ 1000000) :
    Calls Tryz.prog 107 #[.pointer (some ⟨b, 0, none⟩), cv] w fun e w' => e = .returned (.bool (holdB p.act cs)) ∧ Fr (fun _ => False) w w' := by
  obtain ⟨va, vc, hv⟩ := row_len hc
  have HV : Hid _ := hv
  have HC : Hid _ := hc
  have HP : Hid (PyV w b st ws p vo) := hp
  have HS : Hid (CdOn cs) := hs
  rw [hv]
  clear hv hc hp hs
  go_enter Tryz.func107, Tryz.ntmps107
  go_wp2_with fail
  go_loopw [9] (fun i wr => ∃ k : Nat, k ≤ cs.length ∧ i = .int .i64 k ∧ Hid (∀ j, j < k → fails p.act cs j = false) ∧ Fr (fun _ => False) w wr) (fun i _ => cs.length - (intOf i).toNat)
  case atStart => exact ⟨0, Nat.zero_le _, rfl, fun j hj => by omega, Fr.refl _ _⟩
  case round =>
    obtain ⟨k, hk, rfl, HJ, hfr⟩ := hrel
    by_cases hlt : (k : Int) < cs.length
    · have hlt' : k < cs.length := by omega
      obtain ⟨gg, cc, hv3, hcc⟩ := row_form HC.out (by omega)
      have hvv := HV.out.symm.trans hv3
      injection hvv with q1 q2 q3
      subst q1
      subst q3
      clear q2
      obtain ⟨x, hx⟩ : ∃ x, cs[k]? = some x := ⟨_, List.getElem?_eq_getElem hlt'⟩
      have hr := row_fr HC.out hfr (fun _ _ h => h)
      rw [hv3] at hr
      have key : ∀ o v, o < 4 → x.cells[o]? = some v → wr.cell? ⟨gg, k * 4 + o, none⟩ = some v := fun o v ho hv =>
        (row_cell hr (k * 4 + o) v (by rw [flat_get CdP.cells 4 CdP.len cs k o x hx ho]; exact hv)).1
      have x0 := key 0 _ (by omega) rfl
      have x1 := key 1 _ (by omega) rfl
      have x2 := key 2 _ (by omega) rfl
      have x3 := key 3 _ (by omega) rfl
      rw [Nat.add_zero] at x0
      have hxs := HS.out x (List.mem_of_getElem? hx)
      have HF : Hid (fails p.act cs k = (mem p.act x.state.toNat != x.active)) := by show _ = _; simp [fails, hx]
      obtain ⟨n, hn⟩ : ∃ n : Nat, x.state = n := ⟨x.state.toNat, by omega⟩
      have HN : Hid (x.state.toNat = n) := by show _ = _; omega
      have hn26 : n < 26 := by omega
      rw [hn] at x2
      have hpa := (HP.out.fr0 hfr).fr0 (Fr.alloc _ wr (.cells #[.int .u8 x.name.toNat, .int .i64 x.place, .int .i64 n, .bool x.active] 123))
      have ca := hpa.ca n hn26
      clear key hr hv3 hx hpa
      cases h1 : mem p.act n <;> cases h2 : x.active
      · have HG : Hid (fails p.act cs k = false) := by show _ = _; rw [HF.out, HN.out, h1, h2]; rfl
        rw [h2] at x3 ca
        rw [h1] at ca
        go_wp2_with fail
        go_big_quiet (fail)
        go_wp2_with fail
        go_roundw
        case rel => exact ⟨k + 1, by omega, by go_num, below_step HJ.out HG.out, by (repeat (first | exact Fr.refl _ _ | assumption | refine Fr.drewNr ?_ _ | refine Fr.drewr ?_ | refine Fr.allocr ?_ _ | refine Fr.setCellr ?_ _ _ (by first | exact Or.inl rfl | (right; simp; done) | (right; simp; omega))))⟩
        case measure => simp [intOf]; omega
      · have HG : Hid (holdB p.act cs = false) := by
          show _ = _
          rw [holdB, firstB_some (fails p.act cs) k (by rw [HF.out, HN.out, h1, h2]; rfl) HJ.out _ hlt']; rfl
        rw [h2] at x3 ca
        rw [h1] at ca
        go_wp2_with fail
        go_big_quiet (fail)
        go_wp2_with fail
        go_ret
        exact ⟨ret_b HG.out.symm, by (repeat (first | exact Fr.refl _ _ | assumption | refine Fr.drewNr ?_ _ | refine Fr.drewr ?_ | refine Fr.allocr ?_ _ | refine Fr.setCellr ?_ _ _ (by first | exact Or.inl rfl | (right; simp; done) | (right; simp; omega))))⟩
      · have HG : Hid (holdB p.act cs = false) := by
          show _ = _
          rw [holdB, firstB_some (fails p.act cs) k (by rw [HF.out, HN.out, h1, h2]; rfl) HJ.out _ hlt']; rfl
        rw [h2] at x3 ca
        rw [h1] at ca
        go_wp2_with fail
        go_big_quiet (fail)
        go_wp2_with fail
        go_ret
        exact ⟨ret_b HG.out.symm, by (repeat (first | exact Fr.refl _ _ | assumption | refine Fr.drewNr ?_ _ | refine Fr.drewr ?_ | refine Fr.allocr ?_ _ | refine Fr.setCellr ?_ _ _ (by first | exact Or.inl rfl | (right; simp; done) | (right; simp; omega))))⟩
      · have HG : Hid (fails p.act cs k = false) := by show _ = _; rw [HF.out, HN.out, h1, h2]; rfl
        rw [h2] at x3 ca
        rw [h1] at ca
        go_wp2_with fail
        go_big_quiet (fail)
        go_wp2_with fail
        go_roundw
        case rel => exact ⟨k + 1, by omega, by go_num, below_step HJ.out HG.out, by (repeat (first | exact Fr.refl _ _ | assumption | refine Fr.drewNr ?_ _ | refine Fr.drewr ?_ | refine Fr.allocr ?_ _ | refine Fr.setCellr ?_ _ _ (by first | exact Or.inl rfl | (right; simp; done) | (right; simp; omega))))⟩
        case measure => simp [intOf]; omega
    · have HG : Hid (holdB p.act cs = true) := by
        show _ = _
        rw [holdB, firstB_none (fails p.act cs) _ (fun j hj => HJ.out j (by omega))]; rfl
      go_wp2_with fail
      go_ret
      exact ⟨ret_b HG.out.symm, hfr⟩

def inV (ns : List Nat) : List Value := ns.map fun (n : Nat) => Value.int .i64 (n : Int)
theorem inV_get {ns : List Nat} {k n : Nat} (h : ns[k]? = some n) : (inV ns)[k]? = some (.int .i64 (n : Int)) := by simp [inV, h]
def isAt (ns : List Nat) (n k : Nat) : Bool := match ns[k]? with | some m => m == n | none => false
def amng (ns : List Nat) (n : Nat) : Bool := (firstB (isAt ns n) ns.length).isSome

set_option maxRecDepth 100000 in
set_option maxHeartbeats 1000000 in
theorem isAmong_any (w : World) (ns : List Nat) (v : Value) (n : Nat) (hr : w.ownsRow 0 3 1 v ns.length (inV ns)) (hl : ns.length ≤ 1000000) :
    Calls Tryz.prog 87 #[v, .int .i64 n] w fun e w' => e = .returned (.bool (amng ns n)) ∧ Fr (fun _ => False) w w' := by
  obtain ⟨va, vc, hv⟩ := row_len hr
  have HV : Hid _ := hv
  have HC : Hid _ := hr
  rw [hv]
  clear hv hr
  go_enter Tryz.func87, Tryz.ntmps87
  go_wp2_with fail

  go_loopw [9] (fun i wr => ∃ k : Nat, k ≤ ns.length ∧ i = .int .i64 k ∧ Hid (∀ j, j < k → isAt ns n j = false) ∧ Fr (fun _ => False) w wr) (fun i _ => ns.length - (intOf i).toNat)
  case atStart => exact ⟨0, Nat.zero_le _, rfl, fun j hj => by omega, Fr.refl _ _⟩
  case round =>
    obtain ⟨k, hk, rfl, HJ, hfr⟩ := hrel
    by_cases hlt : (k : Int) < ns.length
    · have hlt' : k < ns.length := by omega
      obtain ⟨gg, cc, hv3, hcc⟩ := row_form HC.out (by omega)
      have hvv := HV.out.symm.trans hv3
      injection hvv with q1 q2 q3
      subst q1
      subst q3
      clear q2
      obtain ⟨x, hx⟩ : ∃ x, ns[k]? = some x := ⟨_, List.getElem?_eq_getElem hlt'⟩
      have hr := row_fr HC.out hfr (fun _ _ h => h)
      rw [hv3] at hr
      have x0 := (row_cell hr k _ (inV_get hx)).1
      have HF : Hid (isAt ns n k = (x == n)) := by show _ = _; simp [isAt, hx]
      clear hr hv3 hx
      by_cases e : x = n
      · have HG : Hid (amng ns n = true) := by
          show _ = _
          rw [amng, firstB_some (isAt ns n) k (by rw [HF.out]; simp [e]) HJ.out _ hlt']; rfl
        subst e
        go_wp2_with fail
        go_ret
        exact ⟨ret_b HG.out.symm, hfr⟩
      · have e' : ((x : Int) == n) = false := by rw [beq_eq_false_iff_ne]; omega
        go_wp2_with fail
        go_roundw
        case rel => exact ⟨k + 1, by omega, by go_num, below_step HJ.out (by rw [HF.out]; simpa using e), hfr⟩
        case measure => simp [intOf]; omega
    · have HG : Hid (amng ns n = false) := by
        show _ = _
        rw [amng, firstB_none (isAt ns n) _ (fun j hj => HJ.out j (by omega))]; rfl
      go_wp2_with fail
      go_ret
      exact ⟨ret_b HG.out.symm, hfr⟩

theorem tr9 {w : World} {th : List TrH} {g n c k : Nat} {x : TrH} (h3 : w.ownsRow 0 121 9 (.slice (some ⟨g, 0, none⟩) n c) n (th.flatMap TrH.cells)) (hx : th[k]? = some x) :
  w.cell? ⟨g, k * 9, none⟩ = some (.int .i64 x.q.own) ∧ w.cell? ⟨g, k * 9 + 1, none⟩ = some (.int .u8 x.q.event.toNat) ∧ w.cell? ⟨g, k * 9 + 2, none⟩ = some x.cv ∧ w.cell? ⟨g, k * 9 + 3, none⟩ = some (.int .u8 x.q.tn.toNat) ∧
  w.cell? ⟨g, k * 9 + 4, none⟩ = some (.int .i64 x.q.tp) ∧ w.cell? ⟨g, k * 9 + 5, none⟩ = some (.int .i64 x.q.ts) ∧ w.cell? ⟨g, k * 9 + 6, none⟩ = some (.int .u8 x.q.mark.toNat) ∧ w.cell? ⟨g, k * 9 + 7, none⟩ = some (.int .i64 x.q.mp) ∧ w.cell? ⟨g, k * 9 + 8, none⟩ = some (.string x.q.acts) := by
 have key : ∀ o v, o < 9 → x.cells[o]? = some v → w.cell? ⟨g, k * 9 + o, none⟩ = some v := fun o v ho hv =>
  (row_cell h3 (k * 9 + o) v (by rw [flat_get TrH.cells 9 TrH.len th k o x hx ho]; exact hv)).1
 exact ⟨key 0 _ (by omega) rfl, key 1 _ (by omega) rfl, key 2 _ (by omega) rfl, key 3 _ (by omega) rfl, key 4 _ (by omega) rfl, key 5 _ (by omega) rfl, key 6 _ (by omega) rfl, key 7 _ (by omega) rfl, key 8 _ (by omega) rfl⟩

def ThOk (st : List StP) (th : List TrH) : Prop := ∀ t ∈ th, TrOk st t.q ∧ CdOn t.q.conds ∧ t.q.conds.length ≤ 1000000
def posB (th : List TrH) (act : List Bool) (s : Nat) (ev : UInt8) (k : Nat) : Bool := match th[k]? with | some t => t.q.own == s && (t.q.event == ev && holdB act t.q.conds) | none => false
def fpo (th : List TrH) (act : List Bool) (s : Nat) (ev : UInt8) : Int := match firstB (posB th act s ev) th.length with | some k => k | none => -1

set_option maxRecDepth 100000 in
set_option maxHeartbeats 1000000 in
theorem firstPossible_any (w : World) (b : Nat) (st : List StP) (ws : Wp) (p : Py) (vo : Value) (s : Nat) (ev : UInt8) (hp : PyV w b st ws p vo) (ht : ThOk st ws.th) (hl : ws.th.length ≤ 1000000) :
    Calls Tryz.prog 101 #[.pointer (some ⟨b, 0, none⟩), .int .i64 s, .int .u8 ev.toNat] w fun e w' => e = .returned (.int .i64 (fpo ws.th p.act s ev)) ∧ Fr (fun _ => False) w w' := by
  obtain ⟨va, vc, hv⟩ := row_len hp.pl.r3
  have c1 := hp.c1
  rw [hv] at c1
  have HV : Hid _ := hv
  have HP : Hid (PyV w b st ws p vo) := hp
  have HT : Hid (ThOk st ws.th) := ht
  clear hv hp ht
  go_enter Tryz.func101, Tryz.ntmps101
  go_wp2_with fail
  clear c1
  go_loopw [15] (fun i wr => ∃ k : Nat, k ≤ ws.th.length ∧ i = .int .i64 k ∧ Hid (∀ j, j < k → posB ws.th p.act s ev j = false) ∧ Fr (fun _ => False) w wr) (fun i _ => ws.th.length - (intOf i).toNat)
  case atStart => exact ⟨0, Nat.zero_le _, rfl, fun j hj => by omega, Fr.refl _ _⟩
  case round =>
    obtain ⟨k, hk, rfl, HJ, hfr⟩ := hrel
    by_cases hlt : (k : Int) < ws.th.length
    · have hlt' : k < ws.th.length := by omega
      have hpr := HP.out.fr0 hfr
      obtain ⟨gg, cc, hv3, hcc⟩ := row_form hpr.pl.r3 (by omega)
      have hvv := HV.out.symm.trans hv3
      injection hvv with q1 q2 q3
      subst q1
      subst q3
      clear q2
      obtain ⟨x, hx⟩ : ∃ x, ws.th[k]? = some x := ⟨_, List.getElem?_eq_getElem hlt'⟩
      have hr := hpr.pl.r3
      rw [hv3] at hr
      obtain ⟨x0, x1, x2, x3, x4, x5, x6, x7, x8⟩ := tr9 hr hx
      have hxm := List.mem_of_getElem? hx
      have hto := HT.out x hxm
      have HTO : Hid _ := hto
      have HF : Hid (posB ws.th p.act s ev k = (x.q.own == s && (x.q.event == ev && holdB p.act x.q.conds))) := by show _ = _; simp [posB, hx]
      have hrc := hpr.pl.rc x hxm
      have HRC : Hid _ := hrc
      obtain ⟨ca, ck, hcv⟩ := row_len hrc
      rw [hcv] at x2
      have HCV : Hid _ := hcv
      clear hcv
      have HPR : Hid _ := hpr
      have HI : Hid (posB ws.th p.act s ev k = true → fpo ws.th p.act s ev = k) := fun h => by
        rw [fpo, firstB_some (posB ws.th p.act s ev) k h HJ.out _ hlt']
      clear hr hv3 hx hto hrc hxm hpr
      by_cases e : x.q.own = s
      · have e' : ((x.q.own : Int) == s) = true := by simp [e]
        by_cases e2 : x.q.event = ev
        · subst e
          subst e2
          go_wp2_with fail
          have hcall := fun o => hold_any _ b st ws p vo x.cv x.q.conds (HPR.out.fr0 (Fr.alloc _ _ o)) (row_fr HRC.out (Fr.alloc (fun _ => False) _ o) (fun _ _ h => h)) HTO.out.2.1 HTO.out.2.2
          rw [HCV.out] at hcall
          refine Calls.mono (hcall _) ?_
          clear hcall
          rintro e' w2 ⟨rfl, hf2⟩
          have hfr2 := (hfr.allocr _).thenr hf2 (fun _ _ h => h)
          cases hm : holdB p.act x.q.conds with
          | true =>
            have hi := HI.out (by rw [HF.out, hm]; simp)
            have HI2 : Hid _ := hi
            clear hi
            go_wp2_with fail
            go_ret
            exact ⟨ret_i64 HI2.out.symm, hfr2⟩
          | false =>
            go_wp2_with fail
            go_roundw
            case rel => exact ⟨k + 1, by omega, by go_num, below_step HJ.out (by rw [HF.out, hm]; simp), hfr2⟩
            case measure => simp [intOf]; omega
        · have hne : ((x.q.event.toNat : Int) == ev.toNat) = false := by
            rw [beq_eq_false_iff_ne]; intro h; exact e2 (UInt8.toNat_inj.1 (by omega))
          subst e
          go_wp2_with fail
          go_roundw
          case rel => exact ⟨k + 1, by omega, by go_num, below_step HJ.out (by rw [HF.out]; simp [e2]), hfr.allocr _⟩
          case measure => simp [intOf]; omega
      · have e' : ((x.q.own : Int) == s) = false := by rw [beq_eq_false_iff_ne]; omega
        go_wp2_with fail
        go_roundw
        case rel => exact ⟨k + 1, by omega, by go_num, below_step HJ.out (by rw [HF.out]; simp [e]), hfr.allocr _⟩
        case measure => simp [intOf]; omega
    · have HI : Hid (fpo ws.th p.act s ev = -1) := by
        show _ = _
        rw [fpo, firstB_none (posB ws.th p.act s ev) _ (fun j hj => HJ.out j (by omega))]
      go_wp2_with fail
      go_ret
      exact ⟨ret_i64 HI.out.symm, hfr⟩

def cfF (st : List StP) (th : List TrH) (act : List Bool) (ev : UInt8) : Nat → Int → Int
 | 0, _ => -1
 | f + 1, s => if s = -1 then -1 else if fpo th act s.toNat ev ≠ -1 then fpo th act s.toNat ev else cfF st th act ev f (outAt st s.toNat)
def cfO (st : List StP) (th : List TrH) (act : List Bool) (ev : UInt8) (s : Nat) : Int := cfF st th act ev (st.length + 1) s
theorem fpo_bd (th : List TrH) (act : List Bool) (s : Nat) (ev : UInt8) : -1 ≤ fpo th act s ev ∧ fpo th act s ev < (th.length : Int) := by
 unfold fpo
 rcases firstB_spec (posB th act s ev) th.length with ⟨h, _⟩ | ⟨k, h, hk, _⟩ <;> rw [h] <;> simp only <;> omega
theorem cfF_bd (st : List StP) (th : List TrH) (act : List Bool) (ev : UInt8) : ∀ f s, -1 ≤ cfF st th act ev f s ∧ cfF st th act ev f s < (th.length : Int)
 | 0, s => by simp [cfF]; omega
 | f + 1, s => by
  unfold cfF
  split
  ·omega
  ·split
   ·exact fpo_bd _ _ _ _
   ·exact cfF_bd st th act ev f _

set_option maxRecDepth 100000 in
set_option maxHeartbeats 1000000 in
theorem calledFrom_any (w : World) (b : Nat) (st : List StP) (ws : Wp) (p : Py) (vo : Value) (s0 : Nat) (ev : UInt8) (hwf : Wf st) (hp : PyV w b st ws p vo) (ht : ThOk st ws.th) (hl : ws.th.length ≤ 1000000) (hs : s0 < st.length) :
  Calls Tryz.prog 86 #[.pointer (some ⟨b, 0, none⟩), .int .i64 s0, .int .u8 ev.toNat] w fun e w' => e = .returned (.int .i64 (cfO st ws.th p.act ev s0)) ∧ Fr (fun _ => False) w w' := by
 obtain ⟨gg, cc, hv3, hcc, hgl⟩ := row_gg hp.pl (by omega)
 have HV : Hid (ws.v2 = .slice (some ⟨gg, 0, none⟩) st.length cc) := hv3
 have HP : Hid (PyV w b st ws p vo) := hp
 have HT : Hid (ThOk st ws.th) := ht
 have HW : Hid (Wf st) := hwf
 clear hv3 hp ht hwf
 go_enter Tryz.func86, Tryz.ntmps86
 go_wp2_with fail
 go_loopw [1] (fun i wr => ∃ s : Int, ∃ f : Nat, -1 ≤ s ∧ s < st.length ∧ s + 1 ≤ f ∧ i = .int .i64 s ∧ Hid (cfF st ws.th p.act ev (f + 1) s = cfO st ws.th p.act ev s0) ∧ Fr (fun _ => False) w wr) (fun i _ => (intOf i + 1).toNat)
 case atStart => exact ⟨s0, st.length, by omega, by omega, by omega, rfl, rfl, Fr.refl _ _⟩
 case round =>
  obtain ⟨s, f, hs1, hs2, hf, rfl, HS, hfr⟩ := hrel
  by_cases e : s = -1
  ·have HI : Hid (cfO st ws.th p.act ev s0 = -1) := by show _ = _; rw [← HS.out, cfF, if_pos e]
   subst e
   go_wp2_with fail
   go_ret
   exact ⟨ret_i64 HI.out.symm, hfr⟩
  ·obtain ⟨k, rfl⟩ : ∃ k : Nat, s = k := ⟨s.toNat, by omega⟩
   have hks : k < st.length := by omega
   have hpr := HP.out.fr0 hfr
   have hkn : (k : Int).toNat = k := by omega
   have he1 : ((k : Int) == -1) = false := by rw [beq_eq_false_iff_ne]; omega
   go_wp2_with fail
   refine (firstPossible_any wr b st ws p vo k ev hpr HT.out hl).mono ?_
   rintro e' w2 ⟨rfl, hf2⟩
   have hfr2 := hfr.thenr hf2 (fun _ _ h => h)
   have hpr2 := HP.out.fr0 hfr2
   have hbd := fpo_bd ws.th p.act k ev
   by_cases h1 : fpo ws.th p.act k ev = -1
   ·obtain ⟨x, hx⟩ : ∃ x, st[k]? = some x := ⟨_, List.getElem?_eq_getElem hks⟩
    have hr2 := hpr2.pl.r2
    rw [HV.out] at hr2
    obtain ⟨-, -, -, -, x4, -⟩ := st10 hr2 hx
    have c0 := hpr2.c0
    rw [HV.out] at c0
    have hxo := HW.out.ou k x hx
    have HI : Hid (cfF st ws.th p.act ev f x.outer = cfO st ws.th p.act ev s0) := by
     show _ = _; rw [← HS.out, cfF, if_neg e, if_neg (by rw [hkn]; exact fun h => h h1), hkn, outAt_at hx]
    rw [h1]
    clear hx hr2 hpr2 hpr
    go_wp2_with fail
    go_roundw
    case rel => exact ⟨x.outer, f - 1, by omega, by omega, by omega, rfl, by show _ = _; rw [show f - 1 + 1 = f by omega]; exact HI.out, hfr2⟩
    case measure => simp [intOf]; omega
   ·have hb1 : (fpo ws.th p.act k ev != -1) = true := by simpa using h1
    have hb2 : (fpo ws.th p.act k ev == -1) = false := by simpa using h1
    have HI : Hid (cfO st ws.th p.act ev s0 = fpo ws.th p.act k ev) := by
     show _ = _; rw [← HS.out, cfF, if_neg e, hkn, if_pos h1]
    clear hpr hpr2
    go_wp2_with fail
    go_ret
    exact ⟨ret_i64 HI.out.symm, hfr2⟩

def cl1 (st : List StP) (th : List TrH) (act : List Bool) (ev : UInt8) (acc : List Nat) (s : Nat) : List Nat :=
 if kindAt st s = 0 ∧ mem act s = true then (if cfO st th act ev s ≠ -1 ∧ amng acc (cfO st th act ev s).toNat = false then acc ++ [(cfO st th act ev s).toNat] else acc) else acc
def clK (st : List StP) (th : List TrH) (act : List Bool) (ev : UInt8) (k : Nat) : List Nat := (List.range k).foldl (cl1 st th act ev) []
def clL (st : List StP) (th : List TrH) (act : List Bool) (ev : UInt8) : List Nat := clK st th act ev st.length
theorem clK_succ (st : List StP) (th : List TrH) (act : List Bool) (ev : UInt8) (k : Nat) : clK st th act ev (k + 1) = cl1 st th act ev (clK st th act ev k) k := by
 simp [clK, List.range_succ]
theorem clK_len (st : List StP) (th : List TrH) (act : List Bool) (ev : UInt8) : ∀ k, (clK st th act ev k).length ≤ k
 | 0 => by simp [clK]
 | k + 1 => by
  rw [clK_succ]
  have := clK_len st th act ev k
  unfold cl1
  split
  ·split <;> simp <;> omega
  ·omega

theorem elemInt : ElemOk Tryz.prog 100 3 1 8 where
 ht := Tryz.underlying100
 info := by
  obtain ⟨i, h0, h1, h2, h3⟩ := info_parts (show (Tryz.prog.info? 3).map (fun i => (i.zero, i.size, i.bytes)) = some (some (.int .i64 0), 1, 8) by kernel_rfl)
  exact ⟨i, _, h0, h1, h2, h3, rfl⟩
 pos := by decide
theorem row_none (w : World) (e : TypeId) (sz : Nat) : (w.alloc (.cells #[] e)).ownsRow 0 e sz (.slice (some ⟨w.heap.size, 0, none⟩) 0 0) 0 [] :=
 ⟨by simp, .inr ⟨w.heap.size, 0, #[], rfl, Nat.zero_le _, Blk.new w #[] e, Nat.le_refl _, Nat.zero_le _, by simp, by simp⟩⟩

set_option maxRecDepth 100000 in
set_option maxHeartbeats 1000000 in
theorem called_any (w : World) (b : Nat) (st : List StP) (ws : Wp) (p : Py) (vo : Value) (ev : UInt8) (hwf : Wf st) (hp : PyV w b st ws p vo) (ht : ThOk st ws.th) (hl : ws.th.length ≤ 1000000) :
  Calls Tryz.prog 68 #[.pointer (some ⟨b, 0, none⟩), .int .u8 ev.toNat] w fun e w' => ∃ v, e = .returned v ∧ Fr (fun _ => False) w w' ∧ w'.ownsRow 0 3 1 v (clL st ws.th p.act ev).length (inV (clL st ws.th p.act ev)) ∧ ∀ k, v.ownBlock = some k → w.heap.size ≤ k := by
 obtain ⟨va, vc, hv⟩ := row_len hp.pl.r2
 have hp0 := hp.fr0 (Fr.alloc _ w (.cells #[] 3))
 have c0 := hp0.c0
 rw [hv] at c0
 have HV : Hid _ := hv
 have HP : Hid (PyV w b st ws p vo) := hp
 have HT : Hid (ThOk st ws.th) := ht
 have HW : Hid (Wf st) := hwf
 clear hv hp ht hwf
 go_enter Tryz.func68, Tryz.ntmps68
 go_wp2_with fail
 clear c0 hp0
 go_loopw [5, 15] (fun vv i wr => ∃ (k : Nat) (cv : Value), k ≤ st.length ∧ i = .int .i64 k ∧ vv = cv ∧ wr.ownsRow 0 3 1 cv (clK st ws.th p.act ev k).length (inV (clK st ws.th p.act ev k)) ∧ (∀ j, cv.ownBlock = some j → w.heap.size ≤ j) ∧ Fr (fun _ => False) w wr) (fun _ i _ => st.length - (intOf i).toNat)
 case atStart => exact ⟨0, _, Nat.zero_le _, rfl, rfl, row_none w _ 1, fun j hj => by simp [Value.ownBlock] at hj; omega, by (repeat (first | exact Fr.refl _ _ | assumption | refine Fr.drewNr ?_ _ | refine Fr.drewr ?_ | refine Fr.allocr ?_ _ | refine Fr.setCellr ?_ _ _ (by first | exact Or.inl rfl | (right; simp; done) | (right; simp; omega))))⟩
 case round =>
  obtain ⟨k, cv, hk, rfl, rfl, hrow, hown, hfr⟩ := hrel
  by_cases hlt : (k : Int) < st.length
  ·have hlt' : k < st.length := by omega
   have hlen := HW.out.len
   have hpr := HP.out.fr0 hfr
   obtain ⟨gg, cc, hv3, hcc, hgl⟩ := row_gg hpr.pl (by omega)
   have hvv := HV.out.symm.trans hv3
   injection hvv with q1 q2 q3
   subst q1
   subst q3
   clear q2
   have c0 := hpr.c0
   rw [hv3] at c0
   have hr := hpr.pl.r2
   rw [hv3] at hr
   obtain ⟨x, hx⟩ : ∃ x, st[k]? = some x := ⟨_, List.getElem?_eq_getElem hlt'⟩
   obtain ⟨-, -, -, x3, -⟩ := st10 hr hx
   have ca := hpr.ca k (by omega)
   have HK : Hid _ := kindAt_at hx
   have HS : Hid _ := clK_succ st ws.th p.act ev k
   have hcl := clK_len st ws.th p.act ev k
   obtain ⟨acc, hacc⟩ : ∃ acc, clK st ws.th p.act ev k = acc := ⟨_, rfl⟩
   rw [hacc] at hrow HS hcl
   clear hr hv3 hx hacc
   obtain ⟨ra, rk, hcv⟩ := row_len hrow
   have HR : Hid _ := hrow
   have HCV : Hid _ := hcv
   have HPR : Hid _ := hpr
   clear hrow hpr
   rw [hcv]
   clear hcv
   by_cases e : x.kind = 0
   ·have e' : ((x.kind : Int) != 0) = false := by rw [e]; rfl
    rw [e] at x3
    cases h1 : mem p.act k with
    | false =>
     have HN : Hid (clK st ws.th p.act ev (k + 1) = acc) := by show _ = _; rw [HS.out, cl1, if_neg (by rw [h1]; simp)]
     rw [h1] at ca
     go_wp2_with fail
     go_roundw
     case rel => exact ⟨k + 1, _, by omega, by go_num, HCV.out.symm, by rw [HN.out]; exact HR.out, hown, hfr⟩
     case measure => simp [intOf]; omega
    | true =>
     have HN : Hid (clK st ws.th p.act ev (k + 1) = if cfO st ws.th p.act ev k ≠ -1 ∧ amng acc (cfO st ws.th p.act ev k).toNat = false then acc ++ [(cfO st ws.th p.act ev k).toNat] else acc) := by
      show _ = _; rw [HS.out, cl1, if_pos ⟨by rw [HK.out, e], h1⟩]
     rw [h1] at ca
     go_wp2_with fail
     refine (calledFrom_any _ b st ws p vo k ev HW.out HPR.out HT.out hl hlt').mono ?_
     rintro e2 w2 ⟨rfl, hf2⟩
     have hfr2 := hfr.thenr hf2 (fun _ _ h => h)
     have hrow2 := row_fr HR.out hf2 (fun _ _ h => h)
     have hcb := cfF_bd st ws.th p.act ev (st.length + 1) k
     obtain ⟨t, hct⟩ : ∃ t, cfO st ws.th p.act ev k = t := ⟨_, rfl⟩
     rw [hct] at HN ⊢
     have hcb' : -1 ≤ t ∧ t < (ws.th.length : Int) := by rw [← hct]; exact hcb
     clear hcb hct
     by_cases h2 : t = -1
     ·have HN2 : Hid (clK st ws.th p.act ev (k + 1) = acc) := by show _ = _; rw [HN.out, if_neg (fun h => h.1 h2)]
      subst h2
      clear HN
      go_wp2_with fail
      go_roundw
      case rel => exact ⟨k + 1, _, by omega, by go_num, HCV.out.symm, by rw [HN2.out]; exact hrow2, hown, hfr2⟩
      case measure => simp [intOf]; omega
     ·obtain ⟨n, rfl⟩ : ∃ n : Nat, t = n := ⟨t.toNat, by omega⟩
      have h2' : ((n : Int) != -1) = true := by simp
      have h2'' : ((n : Int) == -1) = false := by simp
      go_wp2_with fail
      have hcall := isAmong_any w2 acc _ n hrow2 (by omega)
      rw [HCV.out] at hcall
      refine hcall.mono ?_
      clear hcall
      rintro e3 w3 ⟨rfl, hf3⟩
      have hfr3 := hfr2.thenr hf3 (fun _ _ h => h)
      have hrow3 := row_fr hrow2 hf3 (fun _ _ h => h)
      cases h3 : amng acc n with
      | true =>
       have HN2 : Hid (clK st ws.th p.act ev (k + 1) = acc) := by show _ = _; rw [HN.out, if_neg (fun h => by simp [h3] at h)]
       go_wp2_with fail
       go_roundw
       case rel => exact ⟨k + 1, _, by omega, by go_num, HCV.out.symm, by rw [HN2.out]; exact hrow3, hown, hfr3⟩
       case measure => simp [intOf]; omega
      | false =>
       have HN2 : Hid (clK st ws.th p.act ev (k + 1) = acc ++ [n]) := by show _ = _; rw [HN.out, if_pos ⟨h2, by simpa using h3⟩]; rfl
       have hrow4 := row_fr hrow3 (Fr.alloc (fun _ => False) w3 (.cells #[.int .i64 n] 3)) (fun _ _ h => h)
       have hownR : ∀ j, (Value.slice ra acc.length rk).ownBlock = some j → w.heap.size ≤ j := by rw [← HCV.out]; exact hown
       rw [HCV.out] at hrow4
       clear HN hrow3 hrow2
       go_wp2_with (at_builtin; go_must (refine wpList_append1 rfl _ _ _ rfl _ 1 8 elemInt _ acc.length (inV acc) rfl hrow4 ⟨w3.heap.size, 0, none⟩ 1 [.int .i64 (n : Int)] rfl rfl (by exact cells_new (Blk.new' _ _ _ _ (by simp))) (by intro u hu; simp at hu; subst hu; rfl) (by unfold maxLen; omega) (by omega) ?_); intro g cap w4 hrow5 hgrow hgo)
       go_roundw
       case rel =>
        have hfr4 : Fr (fun _ => False) w w4 := (hfr3.allocr _).trans (Fr.grown (fun j => (Value.slice ra acc.length rk).ownBlock = some j) hgrow (fun _ e => e)) (fun _ _ h => h) (fun i hi e => by have := hownR i e; omega)
        refine ⟨k + 1, _, by omega, by go_num, rfl, ?_, ?_, hfr4⟩
        ·rw [HN2.out]
         simpa [inV] using hrow5
        ·intro j hj
         simp only [Value.ownBlock, Option.some.injEq] at hj
         subst hj
         have hsz := hfr3.size
         rcases hgo with h | h
         ·exact hownR _ h
         ·simp at h; omega
       case measure => simp [intOf]; omega
   ·have e' : ((x.kind : Int) != 0) = true := by simp; omega
    have e'' : ((x.kind : Int) == 0) = false := by rw [beq_eq_false_iff_ne]; omega
    have HN : Hid (clK st ws.th p.act ev (k + 1) = acc) := by show _ = _; rw [HS.out, cl1, if_neg (fun h => e (by rw [← HK.out]; exact h.1))]
    go_wp2_with fail
    go_roundw
    case rel => exact ⟨k + 1, _, by omega, by go_num, HCV.out.symm, by rw [HN.out]; exact HR.out, hown, hfr⟩
    case measure => simp [intOf]; omega
  ·have hks : k = st.length := by omega
   subst hks
   go_wp2_with fail
   go_ret
   exact ⟨_, rfl, hfr, hrow, hown⟩

def wc1 (st : List StP) (th : List TrH) (act : List Bool) (z : List Nat × List Bool) (k : Nat) : List Nat × List Bool :=
 match th[k]? with
 | some t => if mts (lefB st act t.q) z.2 = true then z else (z.1 ++ [k], unK z.2 (lefB st act t.q) 26)
 | none => z
def wcL (st : List StP) (th : List TrH) (act : List Bool) (ns : List Nat) : List Nat × List Bool := ns.foldl (wc1 st th act) ([], noSet)
set_option maxRecDepth 100000 in
set_option maxHeartbeats 1000000 in
theorem withoutClashes_any (w : World) (b : Nat) (st : List StP) (ws : Wp) (p : Py) (vo : Value) (ns : List Nat) (v : Value) (hwf : Wf st) (hp : PyV w b st ws p vo) (ht : ThOk st ws.th) (hl : ws.th.length ≤ 1000000)
  (hr : w.ownsRow 0 3 1 v ns.length (inV ns)) (hns : ∀ n ∈ ns, n < ws.th.length) (hnl : ns.length ≤ 1000000) :
  Calls Tryz.prog 69 #[.pointer (some ⟨b, 0, none⟩), v] w fun e w' => ∃ u, e = .returned u ∧ Fr (fun _ => False) w w' ∧ w'.ownsRow 0 3 1 u (wcL st ws.th p.act ns).1.length (inV (wcL st ws.th p.act ns).1) ∧ ∀ k, u.ownBlock = some k → w.heap.size ≤ k := by
 obtain ⟨va, vc, hv⟩ := row_len hr
 have HV : Hid _ := hv
 have HR : Hid _ := hr
 have HP : Hid (PyV w b st ws p vo) := hp
 have HT : Hid (ThOk st ws.th) := ht
 have HW : Hid (Wf st) := hwf
 have HNS : Hid _ := hns
 rw [hv]
 clear hv hp ht hwf hr hns
 go_enter Tryz.func69, Tryz.ntmps69
 go_wp2_with (refine wpList_newset rfl _ _ rfl _ _ rfl rfl rfl (by simp; done) ?_)
 have b1 : Blk ((w.alloc (.cells #[] 3)).alloc (.cells (#[.bool false, .bool false, .bool false, .bool false, .bool false, .bool false, .bool false, .bool false, .bool false, .bool false, .bool false, .bool false, .bool false, .bool false, .bool false, .bool false, .bool false, .bool false, .bool false, .bool false, .bool false, .bool false, .bool false, .bool false, .bool false, .bool false] : Array Value) 78)) (w.heap.size + 1) (bV noSet).toArray 78 := Blk.new' _ _ _ _ (by simp)
 have r1 := row_fr (row_none w 3 1) (Fr.alloc (fun _ => False) _ (.cells (#[.bool false, .bool false, .bool false, .bool false, .bool false, .bool false, .bool false, .bool false, .bool false, .bool false, .bool false, .bool false, .bool false, .bool false, .bool false, .bool false, .bool false, .bool false, .bool false, .bool false, .bool false, .bool false, .bool false, .bool false, .bool false, .bool false] : Array Value) 78)) (fun _ _ h => h)
 have hfw : Fr (fun _ => False) w ((w.alloc (.cells #[] 3)).alloc (.cells (#[.bool false, .bool false, .bool false, .bool false, .bool false, .bool false, .bool false, .bool false, .bool false, .bool false, .bool false, .bool false, .bool false, .bool false, .bool false, .bool false, .bool false, .bool false, .bool false, .bool false, .bool false, .bool false, .bool false, .bool false, .bool false, .bool false] : Array Value) 78)) := by (repeat (first | exact Fr.refl _ _ | assumption | refine Fr.drewNr ?_ _ | refine Fr.drewr ?_ | refine Fr.allocr ?_ _ | refine Fr.setCellr ?_ _ _ (by first | exact Or.inl rfl | (right; simp; done) | (right; simp; omega))))
 have hsW : ((w.alloc (.cells #[] 3)).alloc (.cells (#[.bool false, .bool false, .bool false, .bool false, .bool false, .bool false, .bool false, .bool false, .bool false, .bool false, .bool false, .bool false, .bool false, .bool false, .bool false, .bool false, .bool false, .bool false, .bool false, .bool false, .bool false, .bool false, .bool false, .bool false, .bool false, .bool false] : Array Value) 78)).heap.size = w.heap.size + 2 := by simp
 generalize ((w.alloc (.cells #[] 3)).alloc (.cells (#[.bool false, .bool false, .bool false, .bool false, .bool false, .bool false, .bool false, .bool false, .bool false, .bool false, .bool false, .bool false, .bool false, .bool false, .bool false, .bool false, .bool false, .bool false, .bool false, .bool false, .bool false, .bool false, .bool false, .bool false, .bool false, .bool false] : Array Value) 78)) = W at *
 go_loopw [5, 14] (fun vv i wr => ∃ (k : Nat) (cv : Value) (z : List Nat × List Bool), k ≤ ns.length ∧ i = .int .i64 k ∧ vv = cv ∧ Hid (wcL st ws.th p.act ns = (ns.drop k).foldl (wc1 st ws.th p.act) z) ∧ z.1.length ≤ k ∧ z.2.length = 26 ∧ wr.ownsRow 0 3 1 cv z.1.length (inV z.1) ∧ Blk wr (w.heap.size + 1) (bV z.2).toArray 78 ∧ (∀ j, cv.ownBlock = some j → w.heap.size ≤ j ∧ j ≠ w.heap.size + 1) ∧ Fr (fun _ => False) w wr ∧ w.heap.size + 2 ≤ wr.heap.size) (fun _ i _ => ns.length - (intOf i).toNat)
 case atStart => exact ⟨0, _, ([], noSet), Nat.zero_le _, rfl, rfl, rfl, Nat.le_refl _, rfl, r1, b1, fun j hj => by simp [Value.ownBlock] at hj; omega, hfw, by omega⟩
 case round =>
  obtain ⟨k, cv, z, hk, rfl, rfl, HZ, hz1, hz2, hrow, hbq, hown, hfr, hsz⟩ := hrel
  by_cases hlt : (k : Int) < ns.length
  ·have hlt' : k < ns.length := by omega
   have hpr := HP.out.fr0 hfr
   have hrn := row_fr HR.out hfr (fun _ _ h => h)
   obtain ⟨gn, cn, hvn, hcn⟩ := row_form hrn (by omega)
   have hvv := HV.out.symm.trans hvn
   injection hvv with q1 q2 q3
   subst q1
   subst q3
   clear q2
   rw [hvn] at hrn
   obtain ⟨n, hn⟩ : ∃ n, ns[k]? = some n := ⟨_, List.getElem?_eq_getElem hlt'⟩
   have n0 := (row_cell hrn k _ (inV_get hn)).1
   have hnl2 : n < ws.th.length := HNS.out n (List.mem_of_getElem? hn)
   have hdrop : ns.drop k = n :: ns.drop (k + 1) := by
    rw [List.drop_eq_getElem_cons hlt']; congr 1; rw [List.getElem?_eq_getElem hlt'] at hn; simpa using hn
   obtain ⟨gt, ct, hvt, hct⟩ := row_form hpr.pl.r3 (by omega)
   have c1 := hpr.c1
   rw [hvt] at c1
   have hr3 := hpr.pl.r3
   rw [hvt] at hr3
   obtain ⟨x, hx⟩ : ∃ x, ws.th[n]? = some x := ⟨_, List.getElem?_eq_getElem hnl2⟩
   obtain ⟨x0, x1, x2, x3, x4, x5, x6, x7, x8⟩ := tr9 hr3 hx
   have hxm := List.mem_of_getElem? hx
   obtain ⟨ca, ck, hcv⟩ := row_len (hpr.pl.rc x hxm)
   rw [hcv] at x2
   have HZ2 : Hid (wcL st ws.th p.act ns = (ns.drop (k + 1)).foldl (wc1 st ws.th p.act) (if mts (lefB st p.act x.q) z.2 = true then z else (z.1 ++ [n], unK z.2 (lefB st p.act x.q) 26))) := by
    show _ = _; rw [HZ.out, hdrop, List.foldl_cons, wc1, hx]
   have hto := (HT.out x hxm).1
   have HL : Hid (∀ W', PyV W' b st ws p vo → Calls Tryz.prog 88 #[.pointer (some ⟨b, 0, none⟩), .agg #[.int .i64 x.q.own, .int .u8 x.q.event.toNat, .slice ca x.q.conds.length ck, .int .u8 x.q.tn.toNat, .int .i64 x.q.tp, .int .i64 x.q.ts, .int .u8 x.q.mark.toNat, .int .i64 x.q.mp, .string x.q.acts]] W' fun e w' => e = .returned (setV (lefB st p.act x.q)) ∧ Fr (fun _ => False) W' w') := fun W' h => by
    have := leftBy_any W' b st ws p vo x HW.out h hto
    rw [show x.cells.toArray = #[.int .i64 x.q.own, .int .u8 x.q.event.toNat, x.cv, .int .u8 x.q.tn.toNat, .int .i64 x.q.tp, .int .i64 x.q.ts, .int .u8 x.q.mark.toNat, .int .i64 x.q.mp, .string x.q.acts] from rfl, hcv] at this
    exact this
   have HPR : Hid _ := hpr
   have hml : (lefB st p.act x.q).length = 26 := lefB_len _ _ _ hpr.ok.la
   obtain ⟨ra, rk, hcv2⟩ := row_len hrow
   have HR2 : Hid _ := hrow
   have HCV : Hid _ := hcv2
   clear hrow hpr hrn hvn hn hdrop hvt hr3 hx hxm hcv hto HZ
   rw [hcv2]
   clear hcv2
   go_wp2_with fail
   refine Calls.mono (HL.out _ HPR.out) ?_
   clear HL
   rintro e w2 ⟨rfl, hf2⟩
   obtain ⟨m, hm⟩ : ∃ m, lefB st p.act x.q = m := ⟨_, rfl⟩
   rw [hm] at HZ2 hml ⊢
   clear hm
   unfold setV
   have hfr2 := hfr.thenr hf2 (fun _ _ h => h)
   have hrow2 := row_fr HR2.out hf2 (fun _ _ h => h)
   have hbq2 := Blk.fr hbq hf2 (fun h => h)
   have hs2 := hf2.size
   have hthL : (w2.alloc (.cells (#[.bool false, .bool false, .bool false, .bool false, .bool false, .bool false, .bool false, .bool false, .bool false, .bool false, .bool false, .bool false, .bool false, .bool false, .bool false, .bool false, .bool false, .bool false, .bool false, .bool false, .bool false, .bool false, .bool false, .bool false, .bool false, .bool false] : Array Value) 78)).there w2.heap.size 0 (bV m).toArray.size := there_of (Blk.new _ _ _) 0 (by simp [bV, hml])
   have hbL : Blk ((w2.alloc (.cells (#[.bool false, .bool false, .bool false, .bool false, .bool false, .bool false, .bool false, .bool false, .bool false, .bool false, .bool false, .bool false, .bool false, .bool false, .bool false, .bool false, .bool false, .bool false, .bool false, .bool false, .bool false, .bool false, .bool false, .bool false, .bool false, .bool false] : Array Value) 78)).setCells w2.heap.size 0 (bV m)) w2.heap.size (bV m).toArray 78 := by
    rw [← setsA_all (#[.bool false, .bool false, .bool false, .bool false, .bool false, .bool false, .bool false, .bool false, .bool false, .bool false, .bool false, .bool false, .bool false, .bool false, .bool false, .bool false, .bool false, .bool false, .bool false, .bool false, .bool false, .bool false, .bool false, .bool false, .bool false, .bool false] : Array Value) (bV m) (by simp [bV, hml])]; exact Blk.sets _ 0 (Blk.new _ _ _)
   have hfL : Fr (fun _ => False) w2 ((w2.alloc (.cells (#[.bool false, .bool false, .bool false, .bool false, .bool false, .bool false, .bool false, .bool false, .bool false, .bool false, .bool false, .bool false, .bool false, .bool false, .bool false, .bool false, .bool false, .bool false, .bool false, .bool false, .bool false, .bool false, .bool false, .bool false, .bool false, .bool false] : Array Value) 78)).setCells w2.heap.size 0 (bV m)) := Fr.setsr (Or.inr (Nat.le_refl _)) _ 0 (by (repeat (first | exact Fr.refl _ _ | assumption | refine Fr.drewNr ?_ _ | refine Fr.drewr ?_ | refine Fr.allocr ?_ _ | refine Fr.setCellr ?_ _ _ (by first | exact Or.inl rfl | (right; simp; done) | (right; simp; omega)))))
   have hbq3 := Blk.fr hbq2 hfL (fun h => h)
   have raL := rangeB hbL
   have raQ := rangeB hbq3
   have inM := setInfo hml
   have inM' := setInfo' hml
   have inZ := setInfo hz2
   have oneM := one_bV m
   go_wp2_with (first | (refine wpList_load_mid rfl 78 _ rfl _ _ rfl _ _ (by assumption) Tryz.underlying78 rfl (by assumption) ?_) | (refine wpList_store_mid rfl 78 _ _ rfl _ _ _ rfl rfl (by assumption) (by assumption) (by assumption) ?_))
   refine (meets_any _ m z.2 hml hz2).mono ?_
   clear raL raQ hthL
   generalize ((w2.alloc (.cells (#[.bool false, .bool false, .bool false, .bool false, .bool false, .bool false, .bool false, .bool false, .bool false, .bool false, .bool false, .bool false, .bool false, .bool false, .bool false, .bool false, .bool false, .bool false, .bool false, .bool false, .bool false, .bool false, .bool false, .bool false, .bool false, .bool false] : Array Value) 78)).setCells w2.heap.size 0 (bV m)) = w3 at *
   rintro e w4 ⟨rfl, hf4⟩
   have hf24 := hfL.thenr hf4 (fun _ _ h => h)
   have hfr4 := hfr2.thenr hf24 (fun _ _ h => h)
   have hrow4 := row_fr hrow2 hf24 (fun _ _ h => h)
   have hbq4 := Blk.fr hbq3 hf4 (fun h => h)
   have hbL4 := Blk.fr hbL hf4 (fun h => h)
   have hs4 := hf24.size
   cases h1 : mts m z.2 with
   | true =>
    have HZ3 : Hid _ := HZ2.out.trans (by rw [if_pos h1])
    clear HZ2
    go_wp2_with fail
    go_roundw
    case rel => exact ⟨k + 1, _, z, by omega, by go_num, HCV.out.symm, HZ3.out, by omega, hz2, hrow4, hbq4, hown, hfr4, by omega⟩
    case measure => simp [intOf]; omega
   | false =>
    have HZ3 : Hid _ := HZ2.out.trans (by rw [if_neg (by rw [h1]; simp)])
    clear HZ2
    have raL := rangeB hbL4
    have raQ := rangeB hbq4
    go_wp2_with (first | (refine wpList_load_mid rfl 78 _ rfl _ _ rfl _ _ (by assumption) Tryz.underlying78 rfl (by assumption) ?_) | (refine wpList_store_mid rfl 78 _ _ rfl _ _ _ rfl rfl (by assumption) (by assumption) (by assumption) ?_))
    refine (with_any _ z.2 m hz2 hml).mono ?_
    clear raL raQ
    rintro e w5 ⟨rfl, hf5⟩
    have hul : (unK z.2 m 26).length = 26 := unK_len _ _ _
    obtain ⟨u, hu⟩ : ∃ u, unK z.2 m 26 = u := ⟨_, rfl⟩
    rw [hu] at HZ3 hul ⊢
    clear hu
    unfold setV
    have hbq5 := Blk.fr hbq4 hf5 (fun h => h)
    have hfr5 := hfr4.thenr hf5 (fun _ _ h => h)
    have hrow5 := row_fr hrow4 hf5 (fun _ _ h => h)
    have hs5 := hf5.size
    have thQ : w5.there (w.heap.size + 1) 0 (bV u).toArray.size := there_of hbq5 0 (by simp [bV, hul, hz2])
    have inU' := setInfo' hul
    have oneU := one_bV u
    have hbq6 : Blk (w5.setCells (w.heap.size + 1) 0 (bV u)) (w.heap.size + 1) (bV u).toArray 78 := by
     rw [← setsA_all (bV z.2).toArray (bV u) (by simp [bV, hul, hz2])]; exact Blk.sets _ 0 hbq5
    have hf6 : Fr (· = w.heap.size + 1) w5 (w5.setCells (w.heap.size + 1) 0 (bV u)) := Fr.setsr (S := (· = w.heap.size + 1)) (Or.inl rfl) _ 0 (Fr.refl _ _)
    have hrow6 := row_fr hrow5 hf6 (fun j hj e => (hown j hj).2 e)
    have hfr6 := hfr5.trans hf6 (U := fun _ => False) (fun _ _ h => h) (fun i hi e => by omega)
    have hs6 := hf6.size
    have hownR : ∀ j, (Value.slice ra z.1.length rk).ownBlock = some j → w.heap.size ≤ j ∧ j ≠ w.heap.size + 1 := by rw [← HCV.out]; exact hown
    rw [HCV.out] at hrow6
    have hrow7 := row_fr hrow6 (Fr.alloc (fun _ => False) _ (.cells #[.int .i64 n] 3)) (fun _ _ h => h)
    clear hrow5 hrow4 hrow2
    go_wp2_with (first | (refine wpList_store_mid rfl 78 _ _ rfl _ _ _ rfl rfl (by assumption) (by assumption) (by assumption) ?_) | (at_builtin; go_must (refine wpList_append1 rfl _ _ _ rfl _ 1 8 elemInt _ z.1.length (inV z.1) rfl hrow7 ⟨(w5.setCells (w.heap.size + 1) 0 (bV u)).heap.size, 0, none⟩ 1 [.int .i64 (n : Int)] rfl rfl (by exact cells_new (Blk.new' _ _ _ _ (by simp))) (by intro u hu; simp at hu; subst hu; rfl) (by unfold maxLen; omega) (by omega) ?_); intro g cap w8 hrow8 hgrow hgo))
    go_roundw
    case rel =>
     have f8 : Fr (fun j => (Value.slice ra z.1.length rk).ownBlock = some j) _ w8 := Fr.grown _ hgrow (fun _ e => e)
     have hfr8 : Fr (fun _ => False) w w8 := (hfr6.allocr _).trans f8 (fun _ _ h => h) (fun i hi e => by have := (hownR i e).1; omega)
     have hs8 := f8.size
     refine ⟨k + 1, _, (z.1 ++ [n], u), by omega, by go_num, rfl, HZ3.out, by simp; omega, hul, ?_, ?_, ?_, hfr8, ?_⟩
     ·simpa [inV] using hrow8
     ·exact Blk.fr (Blk.alloc hbq6 _) f8 (fun e => (hownR _ e).2 rfl)
     ·intro j hj
      simp only [Value.ownBlock, Option.some.injEq] at hj
      subst hj
      rcases hgo with h | h
      ·exact hownR _ h
      ·simp at h; omega
     ·simp at hs8; omega
    case measure => simp [intOf]; omega
  ·have hkn : k = ns.length := by omega
   have HW2 : Hid (wcL st ws.th p.act ns = z) := by show _ = _; rw [HZ.out, hkn]; simp
   go_wp2_with fail
   go_ret
   exact ⟨_, rfl, hfr, by rw [HW2.out]; exact hrow, fun j hj => (hown j hj).1⟩
end Go.Proofs.YtmolmbeeoecnfaaGreatDoor
