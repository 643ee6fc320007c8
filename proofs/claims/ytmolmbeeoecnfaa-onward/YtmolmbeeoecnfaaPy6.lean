/- Own work: walks of the player: leftBy, hold, firstPossible, calledFrom. -/
import Derived.Test.YtmolmbeeoecnfaaPy5
import Derived.Deep.RegionWith
namespace Go.Proofs.Ytmolmbeeoecnfaa
open Go.RowKit Go.BigFrame
set_option linter.unusedVariables false
set_option linter.unusedSimpArgs false

def lefB (st : List StP) (act : List Bool) (t : TrQ) : List Bool := if scOf st t = -1 then act else actB st act (scOf st t).toNat
theorem lefB_len (st : List StP) (act : List Bool) (t : TrQ) (h : act.length = 26) : (lefB st act t).length = 26 := by
  unfold lefB; split
  · exact h
  · exact belK_len _ _ _
theorem scOf_bd (st : List StP) (hw : Wf st) (t : TrQ) (ht : TrOk st t) : -1 ≤ scOf st t ∧ scOf st t < st.length := by
  have e := outAt_at (List.getElem?_eq_getElem ht.1)
  have h := hw.ou _ _ (List.getElem?_eq_getElem ht.1)
  have := ht.1
  exact scF_bd st hw _ _ _ (by omega) (by omega)

set_option maxRecDepth 100000 in
set_option maxHeartbeats 1000000 in
theorem leftBy_any (w : World) (b : Nat) (st : List StP) (ws : Ws) (p : Py) (vo : Value) (t : TrH) (hwf : Wf st) (hp : PyV w b st ws p vo) (ht : TrOk st t.q) :
    Calls Try.prog 75 #[.pointer (some ⟨b, 0, none⟩), .agg t.cells.toArray] w fun e w' => e = .returned (setV (lefB st p.act t.q)) ∧ Fr (fun _ => False) w w' := by
  have hbd := scOf_bd st hwf t.q ht
  have HW : Hid (Wf st) := hwf
  have HT : Hid (TrOk st t.q) := ht
  have b1 : Blk ((w.alloc (.cells t.cells.toArray 123)).alloc (.cells (#[.bool false, .bool false, .bool false, .bool false, .bool false, .bool false, .bool false, .bool false, .bool false, .bool false, .bool false, .bool false, .bool false, .bool false, .bool false, .bool false, .bool false, .bool false, .bool false, .bool false, .bool false, .bool false, .bool false, .bool false, .bool false, .bool false] : Array Value) 73)) (w.heap.size + 1) (#[.bool false, .bool false, .bool false, .bool false, .bool false, .bool false, .bool false, .bool false, .bool false, .bool false, .bool false, .bool false, .bool false, .bool false, .bool false, .bool false, .bool false, .bool false, .bool false, .bool false, .bool false, .bool false, .bool false, .bool false, .bool false, .bool false] : Array Value) 73 := Blk.new' _ _ _ _ (by simp)
  have hfw : Fr (fun _ => False) w ((w.alloc (.cells t.cells.toArray 123)).alloc (.cells (#[.bool false, .bool false, .bool false, .bool false, .bool false, .bool false, .bool false, .bool false, .bool false, .bool false, .bool false, .bool false, .bool false, .bool false, .bool false, .bool false, .bool false, .bool false, .bool false, .bool false, .bool false, .bool false, .bool false, .bool false, .bool false, .bool false] : Array Value) 73)) := by (repeat (first | exact Fr.refl _ _ | assumption | refine Fr.drewNr ?_ _ | refine Fr.drewr ?_ | refine Fr.allocr ?_ _ | refine Fr.setCellr ?_ _ _ (by first | exact Or.inl rfl | (right; simp; done) | (right; simp; omega))))
  have hp1 := hp.fr0 hfw
  have c0 := hp1.c0
  have c1 := hp1.c1
  have HSC : Hid (∀ W, PlR W st ws → Calls Try.prog 80 #[.agg #[ws.v2, ws.v3], .agg #[.int .i64 t.q.own, .int .u8 t.q.event.toNat, t.cv, .int .u8 t.q.tn.toNat, .int .i64 t.q.tp, .int .i64 t.q.ts, .int .u8 t.q.mark.toNat, .int .i64 t.q.mp, .string t.q.acts]] W fun e w' => e = .returned (.int .i64 (scOf st t.q)) ∧ Fr (fun _ => False) W w') := fun W h => scope_any W st ws t hwf h ht
  clear hwf ht
  have q : t.cells.toArray = #[.int .i64 t.q.own, .int .u8 t.q.event.toNat, t.cv, .int .u8 t.q.tn.toNat, .int .i64 t.q.tp, .int .i64 t.q.ts, .int .u8 t.q.mark.toNat, .int .i64 t.q.mp, .string t.q.acts] := rfl
  rw [q] at b1 hfw hp1 c0 c1 ⊢
  clear q
  go_enter Try.func75, Try.ntmps75
  go_wp2_with fail
  go_region_with (go_at_call 80; refine Calls.mono (HSC.out _ ?_) ?_; exact hp1.pl.fr0 (Fr.drew _ _); rintro e w1 ⟨rfl, hf1⟩)
  all_goals
    have hfo := hfw.drewr.thenr hf1 (fun _ _ h => h)
    have hb1 := Blk.fr b1.drew hf1 (fun h => h)
    have hp2 := hp.fr0 hfo
    have hla := hp.ok.la
    clear b1 hfw hp1 c0 c1 hf1
    by_cases h1 : scOf st t.q = -1
    · have HM : Hid (lefB st p.act t.q = p.act) := by show _ = _; rw [lefB, if_pos h1]
      have hra := hp2.ra
      have hin := setInfo hla
      have hin' := setInfo' hla
      have hone := one_bV p.act
      have hth : w1.there (w.heap.size + 1) 0 (bV p.act).toArray.size := there_of hb1 0 (by simp [bV, hla])
      rw [h1]
      clear hp
      go_wp2_with (first | (refine wpList_load_mid rfl 73 _ rfl _ _ rfl _ _ (by assumption) Try.underlying73 rfl (by assumption) ?_) | (refine wpList_store_mid rfl 73 _ _ rfl _ _ _ rfl rfl (by assumption) (by assumption) (by assumption) ?_))
      have hbz : Blk (w1.setCells (w.heap.size + 1) 0 (bV p.act)) (w.heap.size + 1) (bV p.act).toArray 73 := by
        rw [← setsA_all (#[.bool false, .bool false, .bool false, .bool false, .bool false, .bool false, .bool false, .bool false, .bool false, .bool false, .bool false, .bool false, .bool false, .bool false, .bool false, .bool false, .bool false, .bool false, .bool false, .bool false, .bool false, .bool false, .bool false, .bool false, .bool false, .bool false] : Array Value) (bV p.act) (by simp [bV, hla])]; exact Blk.sets _ 0 hb1
      refine bodyPost_ret (v := setV p.act) (ret_setC rfl rfl hbz hla) rfl ⟨by rw [HM.out], ?_⟩
      exact Fr.setsr (Or.inr (by omega)) _ 0 hfo
    · obtain ⟨k, hk⟩ : ∃ k : Nat, scOf st t.q = k := ⟨(scOf st t.q).toNat, by omega⟩
      have HM : Hid (lefB st p.act t.q = actB st p.act k) := by show _ = _; rw [lefB, if_neg h1, hk]; rfl
      have hne : ((k : Int) == -1) = false := by rw [beq_eq_false_iff_ne]; omega
      rw [hk]
      go_wp2_with fail
      refine (activeBelow_any w1 b st ws p vo k HW.out hp2 (by omega)).mono ?_
      rintro e w2 ⟨rfl, hf2⟩
      have hfo2 := hfo.thenr hf2 (fun _ _ h => h)
      have hb2 := Blk.fr hb1 hf2 (fun h => h)
      have hal : (actB st p.act k).length = 26 := belK_len _ _ _
      obtain ⟨m, hm⟩ : ∃ m, actB st p.act k = m := ⟨_, rfl⟩
      rw [hm] at hal HM ⊢
      clear hm hp hp2
      have hin' := setInfo' hal
      have hone := one_bV m
      have hth : w2.there (w.heap.size + 1) 0 (bV m).toArray.size := there_of hb2 0 (by simp [bV, hal])
      unfold setV
      go_wp2_with (refine wpList_store_mid rfl 73 _ _ rfl _ _ _ rfl rfl (by assumption) (by assumption) (by assumption) ?_)
      have hbz : Blk (w2.setCells (w.heap.size + 1) 0 (bV m)) (w.heap.size + 1) (bV m).toArray 73 := by
        rw [← setsA_all (#[.bool false, .bool false, .bool false, .bool false, .bool false, .bool false, .bool false, .bool false, .bool false, .bool false, .bool false, .bool false, .bool false, .bool false, .bool false, .bool false, .bool false, .bool false, .bool false, .bool false, .bool false, .bool false, .bool false, .bool false, .bool false, .bool false] : Array Value) (bV m) (by simp [bV, hal])]; exact Blk.sets _ 0 hb2
      refine bodyPost_ret (v := setV m) (ret_setC rfl rfl hbz hal) rfl ⟨by rw [HM.out], ?_⟩
      exact Fr.setsr (Or.inr (by omega)) _ 0 hfo2
end Go.Proofs.Ytmolmbeeoecnfaa
