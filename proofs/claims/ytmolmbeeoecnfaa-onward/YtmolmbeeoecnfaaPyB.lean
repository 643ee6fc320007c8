/- Own work: walks of the player: withoutClashes. -/
import Derived.Test.YtmolmbeeoecnfaaPyA
namespace Go.Proofs.Ytmolmbeeoecnfaa
open Go.RowKit Go.BigFrame
set_option linter.unusedVariables false
set_option linter.unusedSimpArgs false

/-- What is taken, and what is left then. -/
def wc1 (st : List StP) (th : List TrH) (act : List Bool) (z : List Nat × List Bool) (k : Nat) : List Nat × List Bool :=
  match th[k]? with
  | some t => if mts (lefB st act t.q) z.2 = true then z else (z.1 ++ [k], unK z.2 (lefB st act t.q) 26)
  | none => z
def wcL (st : List StP) (th : List TrH) (act : List Bool) (ns : List Nat) : List Nat × List Bool := ns.foldl (wc1 st th act) ([], noSet)
theorem wc1_ok (st : List StP) (th : List TrH) (act : List Bool) (z : List Nat × List Bool) (k : Nat) (hz : z.2.length = 26) : (wc1 st th act z k).2.length = 26 := by
  unfold wc1
  split
  · split
    · exact hz
    · exact unK_len _ _ _
  · exact hz

set_option maxRecDepth 100000 in
set_option maxHeartbeats 1000000 in
theorem withoutClashes_any (w : World) (b : Nat) (st : List StP) (ws : Ws) (p : Py) (vo : Value) (ns : List Nat) (v : Value) (hwf : Wf st) (hp : PyV w b st ws p vo) (ht : ThOk st ws.th) (hl : ws.th.length ≤ 1000000)
    (hr : w.ownsRow 0 3 1 v ns.length (inV ns)) (hns : ∀ n ∈ ns, n < ws.th.length) (hnl : ns.length ≤ 1000000) :
    Calls Try.prog 50 #[.pointer (some ⟨b, 0, none⟩), v] w fun e w' => ∃ u, e = .returned u ∧ Fr (fun _ => False) w w' ∧ w'.ownsRow 0 3 1 u (wcL st ws.th p.act ns).1.length (inV (wcL st ws.th p.act ns).1) ∧ ∀ k, u.ownBlock = some k → w.heap.size ≤ k := by
  obtain ⟨va, vc, hv⟩ := row_len hr
  have HV : Hid _ := hv
  have HR : Hid _ := hr
  have HP : Hid (PyV w b st ws p vo) := hp
  have HT : Hid (ThOk st ws.th) := ht
  have HW : Hid (Wf st) := hwf
  have HNS : Hid _ := hns
  rw [hv]
  clear hv hp ht hwf hr hns
  go_enter Try.func50, Try.ntmps50
  go_wp2_with (refine wpList_newset rfl _ _ rfl _ _ rfl rfl rfl (by simp; done) ?_)
  have b1 : Blk ((w.alloc (.cells #[] 3)).alloc (.cells (#[.bool false, .bool false, .bool false, .bool false, .bool false, .bool false, .bool false, .bool false, .bool false, .bool false, .bool false, .bool false, .bool false, .bool false, .bool false, .bool false, .bool false, .bool false, .bool false, .bool false, .bool false, .bool false, .bool false, .bool false, .bool false, .bool false] : Array Value) 73)) (w.heap.size + 1) (bV noSet).toArray 73 := Blk.new' _ _ _ _ (by simp)
  have r1 := row_fr (row_none w 3 1) (Fr.alloc (fun _ => False) _ (.cells (#[.bool false, .bool false, .bool false, .bool false, .bool false, .bool false, .bool false, .bool false, .bool false, .bool false, .bool false, .bool false, .bool false, .bool false, .bool false, .bool false, .bool false, .bool false, .bool false, .bool false, .bool false, .bool false, .bool false, .bool false, .bool false, .bool false] : Array Value) 73)) (fun _ _ h => h)
  have hfw : Fr (fun _ => False) w ((w.alloc (.cells #[] 3)).alloc (.cells (#[.bool false, .bool false, .bool false, .bool false, .bool false, .bool false, .bool false, .bool false, .bool false, .bool false, .bool false, .bool false, .bool false, .bool false, .bool false, .bool false, .bool false, .bool false, .bool false, .bool false, .bool false, .bool false, .bool false, .bool false, .bool false, .bool false] : Array Value) 73)) := by (repeat (first | exact Fr.refl _ _ | assumption | refine Fr.drewNr ?_ _ | refine Fr.drewr ?_ | refine Fr.allocr ?_ _ | refine Fr.setCellr ?_ _ _ (by first | exact Or.inl rfl | (right; simp; done) | (right; simp; omega))))
  have hsW : ((w.alloc (.cells #[] 3)).alloc (.cells (#[.bool false, .bool false, .bool false, .bool false, .bool false, .bool false, .bool false, .bool false, .bool false, .bool false, .bool false, .bool false, .bool false, .bool false, .bool false, .bool false, .bool false, .bool false, .bool false, .bool false, .bool false, .bool false, .bool false, .bool false, .bool false, .bool false] : Array Value) 73)).heap.size = w.heap.size + 2 := by simp
  generalize ((w.alloc (.cells #[] 3)).alloc (.cells (#[.bool false, .bool false, .bool false, .bool false, .bool false, .bool false, .bool false, .bool false, .bool false, .bool false, .bool false, .bool false, .bool false, .bool false, .bool false, .bool false, .bool false, .bool false, .bool false, .bool false, .bool false, .bool false, .bool false, .bool false, .bool false, .bool false] : Array Value) 73)) = W at *
  go_loopw [5, 14] (fun vv i wr => ∃ (k : Nat) (cv : Value) (z : List Nat × List Bool), k ≤ ns.length ∧ i = .int .i64 k ∧ vv = cv ∧ Hid (wcL st ws.th p.act ns = (ns.drop k).foldl (wc1 st ws.th p.act) z) ∧ z.1.length ≤ k ∧ z.2.length = 26 ∧ wr.ownsRow 0 3 1 cv z.1.length (inV z.1) ∧ Blk wr (w.heap.size + 1) (bV z.2).toArray 73 ∧ (∀ j, cv.ownBlock = some j → w.heap.size ≤ j ∧ j ≠ w.heap.size + 1) ∧ Fr (fun _ => False) w wr ∧ w.heap.size + 2 ≤ wr.heap.size) (fun _ i _ => ns.length - (intOf i).toNat)
  case atStart => exact ⟨0, _, ([], noSet), Nat.zero_le _, rfl, rfl, rfl, Nat.le_refl _, rfl, r1, b1, fun j hj => by simp [Value.ownBlock] at hj; omega, hfw, by omega⟩
  case round =>
    obtain ⟨k, cv, z, hk, rfl, rfl, HZ, hz1, hz2, hrow, hbq, hown, hfr, hsz⟩ := hrel
    by_cases hlt : (k : Int) < ns.length
    · have hlt' : k < ns.length := by omega
      have hpr := HP.out.fr0 hfr
      have hrn := row_fr HR.out hfr (fun _ _ h => h)
      obtain ⟨gn, cn, hvn, hcn⟩ := row_form hrn (by omega)
      have hvv := HV.out.symm.trans hvn
      injection hvv with q1 q2 q3
      subst q1
      subst q3
      clear q2
      rw [hvn] at hrn
      obtain ⟨n, hn⟩ : ∃ n, ns[k]? = some n := ⟨_, List.getElem?_eq_getElem hlt'⟩
      have n0 := (row_cell hrn k _ (inV_get hn)).1
      have hnl2 : n < ws.th.length := HNS.out n (List.mem_of_getElem? hn)
      have hdrop : ns.drop k = n :: ns.drop (k + 1) := by
        rw [List.drop_eq_getElem_cons hlt']; congr 1; rw [List.getElem?_eq_getElem hlt'] at hn; simpa using hn
      obtain ⟨gt, ct, hvt, hct⟩ := row_form hpr.pl.r3 (by omega)
      have c1 := hpr.c1
      rw [hvt] at c1
      have hr3 := hpr.pl.r3
      rw [hvt] at hr3
      obtain ⟨x, hx⟩ : ∃ x, ws.th[n]? = some x := ⟨_, List.getElem?_eq_getElem hnl2⟩
      obtain ⟨x0, x1, x2, x3, x4, x5, x6, x7, x8⟩ := tr9 hr3 hx
      have hxm := List.mem_of_getElem? hx
      obtain ⟨ca, ck, hcv⟩ := row_len (hpr.pl.rc x hxm)
      rw [hcv] at x2
      have HZ2 : Hid (wcL st ws.th p.act ns = (ns.drop (k + 1)).foldl (wc1 st ws.th p.act) (if mts (lefB st p.act x.q) z.2 = true then z else (z.1 ++ [n], unK z.2 (lefB st p.act x.q) 26))) := by
        show _ = _; rw [HZ.out, hdrop, List.foldl_cons, wc1, hx]
      have hto := (HT.out x hxm).1
      have HL : Hid (∀ W', PyV W' b st ws p vo → Calls Try.prog 75 #[.pointer (some ⟨b, 0, none⟩), .agg #[.int .i64 x.q.own, .int .u8 x.q.event.toNat, .slice ca x.q.conds.length ck, .int .u8 x.q.tn.toNat, .int .i64 x.q.tp, .int .i64 x.q.ts, .int .u8 x.q.mark.toNat, .int .i64 x.q.mp, .string x.q.acts]] W' fun e w' => e = .returned (setV (lefB st p.act x.q)) ∧ Fr (fun _ => False) W' w') := fun W' h => by
        have := leftBy_any W' b st ws p vo x HW.out h hto
        rw [show x.cells.toArray = #[.int .i64 x.q.own, .int .u8 x.q.event.toNat, x.cv, .int .u8 x.q.tn.toNat, .int .i64 x.q.tp, .int .i64 x.q.ts, .int .u8 x.q.mark.toNat, .int .i64 x.q.mp, .string x.q.acts] from rfl, hcv] at this
        exact this
      have HPR : Hid _ := hpr
      have hml : (lefB st p.act x.q).length = 26 := lefB_len _ _ _ hpr.ok.la
      obtain ⟨ra, rk, hcv2⟩ := row_len hrow
      have HR2 : Hid _ := hrow
      have HCV : Hid _ := hcv2
      clear hrow hpr hrn hvn hn hdrop hvt hr3 hx hxm hcv hto HZ
      rw [hcv2]
      clear hcv2
      go_wp2_with fail
      refine Calls.mono (HL.out _ HPR.out) ?_
      clear HL
      rintro e w2 ⟨rfl, hf2⟩
      obtain ⟨m, hm⟩ : ∃ m, lefB st p.act x.q = m := ⟨_, rfl⟩
      rw [hm] at HZ2 hml ⊢
      clear hm
      unfold setV
      have hfr2 := hfr.thenr hf2 (fun _ _ h => h)
      have hrow2 := row_fr HR2.out hf2 (fun _ _ h => h)
      have hbq2 := Blk.fr hbq hf2 (fun h => h)
      have hs2 := hf2.size
      have hthL : (w2.alloc (.cells (#[.bool false, .bool false, .bool false, .bool false, .bool false, .bool false, .bool false, .bool false, .bool false, .bool false, .bool false, .bool false, .bool false, .bool false, .bool false, .bool false, .bool false, .bool false, .bool false, .bool false, .bool false, .bool false, .bool false, .bool false, .bool false, .bool false] : Array Value) 73)).there w2.heap.size 0 (bV m).toArray.size := there_of (Blk.new _ _ _) 0 (by simp [bV, hml])
      have hbL : Blk ((w2.alloc (.cells (#[.bool false, .bool false, .bool false, .bool false, .bool false, .bool false, .bool false, .bool false, .bool false, .bool false, .bool false, .bool false, .bool false, .bool false, .bool false, .bool false, .bool false, .bool false, .bool false, .bool false, .bool false, .bool false, .bool false, .bool false, .bool false, .bool false] : Array Value) 73)).setCells w2.heap.size 0 (bV m)) w2.heap.size (bV m).toArray 73 := by
        rw [← setsA_all (#[.bool false, .bool false, .bool false, .bool false, .bool false, .bool false, .bool false, .bool false, .bool false, .bool false, .bool false, .bool false, .bool false, .bool false, .bool false, .bool false, .bool false, .bool false, .bool false, .bool false, .bool false, .bool false, .bool false, .bool false, .bool false, .bool false] : Array Value) (bV m) (by simp [bV, hml])]; exact Blk.sets _ 0 (Blk.new _ _ _)
      have hfL : Fr (fun _ => False) w2 ((w2.alloc (.cells (#[.bool false, .bool false, .bool false, .bool false, .bool false, .bool false, .bool false, .bool false, .bool false, .bool false, .bool false, .bool false, .bool false, .bool false, .bool false, .bool false, .bool false, .bool false, .bool false, .bool false, .bool false, .bool false, .bool false, .bool false, .bool false, .bool false] : Array Value) 73)).setCells w2.heap.size 0 (bV m)) := Fr.setsr (Or.inr (Nat.le_refl _)) _ 0 (by (repeat (first | exact Fr.refl _ _ | assumption | refine Fr.drewNr ?_ _ | refine Fr.drewr ?_ | refine Fr.allocr ?_ _ | refine Fr.setCellr ?_ _ _ (by first | exact Or.inl rfl | (right; simp; done) | (right; simp; omega)))))
      have hbq3 := Blk.fr hbq2 hfL (fun h => h)
      have raL := rangeB hbL
      have raQ := rangeB hbq3
      have inM := setInfo hml
      have inM' := setInfo' hml
      have inZ := setInfo hz2
      have oneM := one_bV m
      go_wp2_with (first | (refine wpList_load_mid rfl 73 _ rfl _ _ rfl _ _ (by assumption) Try.underlying73 rfl (by assumption) ?_) | (refine wpList_store_mid rfl 73 _ _ rfl _ _ _ rfl rfl (by assumption) (by assumption) (by assumption) ?_))
      refine (meets_any _ m z.2 hml hz2).mono ?_
      clear raL raQ hthL
      generalize ((w2.alloc (.cells (#[.bool false, .bool false, .bool false, .bool false, .bool false, .bool false, .bool false, .bool false, .bool false, .bool false, .bool false, .bool false, .bool false, .bool false, .bool false, .bool false, .bool false, .bool false, .bool false, .bool false, .bool false, .bool false, .bool false, .bool false, .bool false, .bool false] : Array Value) 73)).setCells w2.heap.size 0 (bV m)) = w3 at *
      rintro e w4 ⟨rfl, hf4⟩
      have hf24 := hfL.thenr hf4 (fun _ _ h => h)
      have hfr4 := hfr2.thenr hf24 (fun _ _ h => h)
      have hrow4 := row_fr hrow2 hf24 (fun _ _ h => h)
      have hbq4 := Blk.fr hbq3 hf4 (fun h => h)
      have hbL4 := Blk.fr hbL hf4 (fun h => h)
      have hs4 := hf24.size
      cases h1 : mts m z.2 with
      | true =>
        have HZ3 : Hid _ := HZ2.out.trans (by rw [if_pos h1])
        clear HZ2
        go_wp2_with fail
        go_roundw
        case rel => exact ⟨k + 1, _, z, by omega, by go_num, HCV.out.symm, HZ3.out, by omega, hz2, hrow4, hbq4, hown, hfr4, by omega⟩
        case measure => simp [intOf]; omega
      | false =>
        have HZ3 : Hid _ := HZ2.out.trans (by rw [if_neg (by rw [h1]; simp)])
        clear HZ2
        have raL := rangeB hbL4
        have raQ := rangeB hbq4
        go_wp2_with (first | (refine wpList_load_mid rfl 73 _ rfl _ _ rfl _ _ (by assumption) Try.underlying73 rfl (by assumption) ?_) | (refine wpList_store_mid rfl 73 _ _ rfl _ _ _ rfl rfl (by assumption) (by assumption) (by assumption) ?_))
        refine (with_any _ z.2 m hz2 hml).mono ?_
        clear raL raQ
        rintro e w5 ⟨rfl, hf5⟩
        have hul : (unK z.2 m 26).length = 26 := unK_len _ _ _
        obtain ⟨u, hu⟩ : ∃ u, unK z.2 m 26 = u := ⟨_, rfl⟩
        rw [hu] at HZ3 hul ⊢
        clear hu
        unfold setV
        have hbq5 := Blk.fr hbq4 hf5 (fun h => h)
        have hfr5 := hfr4.thenr hf5 (fun _ _ h => h)
        have hrow5 := row_fr hrow4 hf5 (fun _ _ h => h)
        have hs5 := hf5.size
        have thQ : w5.there (w.heap.size + 1) 0 (bV u).toArray.size := there_of hbq5 0 (by simp [bV, hul, hz2])
        have inU' := setInfo' hul
        have oneU := one_bV u
        have hbq6 : Blk (w5.setCells (w.heap.size + 1) 0 (bV u)) (w.heap.size + 1) (bV u).toArray 73 := by
          rw [← setsA_all (bV z.2).toArray (bV u) (by simp [bV, hul, hz2])]; exact Blk.sets _ 0 hbq5
        have hf6 : Fr (· = w.heap.size + 1) w5 (w5.setCells (w.heap.size + 1) 0 (bV u)) := Fr.setsr (S := (· = w.heap.size + 1)) (Or.inl rfl) _ 0 (Fr.refl _ _)
        have hrow6 := row_fr hrow5 hf6 (fun j hj e => (hown j hj).2 e)
        have hfr6 := hfr5.trans hf6 (U := fun _ => False) (fun _ _ h => h) (fun i hi e => by omega)
        have hs6 := hf6.size
        have hownR : ∀ j, (Value.slice ra z.1.length rk).ownBlock = some j → w.heap.size ≤ j ∧ j ≠ w.heap.size + 1 := by rw [← HCV.out]; exact hown
        rw [HCV.out] at hrow6
        have hrow7 := row_fr hrow6 (Fr.alloc (fun _ => False) _ (.cells #[.int .i64 n] 3)) (fun _ _ h => h)
        clear hrow5 hrow4 hrow2
        go_wp2_with (first | (refine wpList_store_mid rfl 73 _ _ rfl _ _ _ rfl rfl (by assumption) (by assumption) (by assumption) ?_) | (at_builtin; go_must (refine wpList_append1 rfl _ _ _ rfl _ 1 8 elemInt _ z.1.length (inV z.1) rfl hrow7 ⟨(w5.setCells (w.heap.size + 1) 0 (bV u)).heap.size, 0, none⟩ 1 [.int .i64 (n : Int)] rfl rfl (by exact cells_new (Blk.new' _ _ _ _ (by simp))) (by intro u hu; simp at hu; subst hu; rfl) (by unfold maxLen; omega) (by omega) ?_); intro g cap w8 hrow8 hgrow hgo))
        go_roundw
        case rel =>
          have f8 : Fr (fun j => (Value.slice ra z.1.length rk).ownBlock = some j) _ w8 := Fr.grown _ hgrow (fun _ e => e)
          have hfr8 : Fr (fun _ => False) w w8 := (hfr6.allocr _).trans f8 (fun _ _ h => h) (fun i hi e => by have := (hownR i e).1; omega)
          have hs8 := f8.size
          refine ⟨k + 1, _, (z.1 ++ [n], u), by omega, by go_num, rfl, HZ3.out, by simp; omega, hul, ?_, ?_, ?_, hfr8, ?_⟩
          · simpa [inV] using hrow8
          · exact Blk.fr (Blk.alloc hbq6 _) f8 (fun e => (hownR _ e).2 rfl)
          · intro j hj
            simp only [Value.ownBlock, Option.some.injEq] at hj
            subst hj
            rcases hgo with h | h
            · exact hownR _ h
            · simp at h; omega
          · simp at hs8; omega
        case measure => simp [intOf]; omega
    · have hkn : k = ns.length := by omega
      have HW2 : Hid (wcL st ws.th p.act ns = z) := by show _ = _; rw [HZ.out, hkn]; simp
      go_wp2_with fail
      go_ret
      exact ⟨_, rfl, hfr, by rw [HW2.out]; exact hrow, fun j hj => (hown j hj).1⟩
end Go.Proofs.Ytmolmbeeoecnfaa
