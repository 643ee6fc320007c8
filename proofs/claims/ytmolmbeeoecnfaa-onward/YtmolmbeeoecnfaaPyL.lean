/- Own work: walks of the plan: names. -/
import Derived.Test.YtmolmbeeoecnfaaPyK
namespace Go.Proofs.Ytmolmbeeoecnfaa
open Go.RowKit Go.BigFrame
set_option linter.unusedVariables false
set_option linter.unusedSimpArgs false

def nameAt (st : List StP) (k : Nat) : UInt8 := match st[k]? with | some x => x.name | none => 0
theorem nameAt_at {st : List StP} {k : Nat} {x : StP} (h : st[k]? = some x) : nameAt st k = x.name := by simp [nameAt, h]
def nmK (st : List StP) (l : List Bool) : Nat → List UInt8
  | 0 => []
  | k + 1 => if mem l k = true then nmK st l k ++ [nameAt st k] else nmK st l k
theorem nmK_len (st : List StP) (l : List Bool) : ∀ k, (nmK st l k).length ≤ k
  | 0 => Nat.le_refl _
  | k + 1 => by
    have := nmK_len st l k
    rw [nmK]; split
    · simp; omega
    · omega

set_option maxRecDepth 100000 in
set_option maxHeartbeats 1000000 in
theorem names_any (w : World) (st : List StP) (ws : Ws) (l : List Bool) (hwf : Wf st) (hp : PlR w st ws) (hl : l.length = 26) :
    Calls Try.prog 52 #[.agg #[ws.v2, ws.v3], setV l] w fun e w' => ∃ v, e = .returned v ∧ Fr (fun _ => False) w w' ∧ w'.ownsRow 0 5 1 v (nmK st l st.length).length (byV (nmK st l st.length)) ∧ (∀ k, v.ownBlock = some k → w.heap.size ≤ k) ∧ ∃ g c, v = .slice (some ⟨g, 0, none⟩) (nmK st l st.length).length c := by
  unfold setV
  obtain ⟨va, vc, hv⟩ := row_len hp.r2
  have HV : Hid (ws.v2 = .slice va st.length vc) := hv
  have HP : Hid (PlR w st ws) := hp
  have HL : Hid (l.length = 26) := hl
  have hlen := hwf.len
  rw [hv]
  have HB0 : Hid (Blk (((w.alloc (.cells #[.slice va st.length vc, ws.v3] 69)).alloc (.cells (bV l).toArray 73)).alloc (.cells #[] 5)) (w.heap.size + 1) (bV l).toArray 73) := Blk.alloc (Blk.new' _ _ _ _ (by simp)) _
  have HF0 : Hid (Fr (fun _ => False) w (((w.alloc (.cells #[.slice va st.length vc, ws.v3] 69)).alloc (.cells (bV l).toArray 73)).alloc (.cells #[] 5))) := (((Fr.refl _ _).allocr _).allocr _).allocr _
  have HR0 : Hid (World.ownsRow (((w.alloc (.cells #[.slice va st.length vc, ws.v3] 69)).alloc (.cells (bV l).toArray 73)).alloc (.cells #[] 5)) 0 5 1 (.slice (some ⟨((w.alloc (.cells #[.slice va st.length vc, ws.v3] 69)).alloc (.cells (bV l).toArray 73)).heap.size, 0, none⟩) 0 0) 0 []) := row_none _ _ 1
  clear hp hwf hl hv
  go_enter Try.func52, Try.ntmps52
  go_wp2_with fail
  have hb0 := HB0.out
  have hf0 := HF0.out
  have hr0 := HR0.out
  have hs0 : (((w.alloc (.cells #[.slice va st.length vc, ws.v3] 69)).alloc (.cells (bV l).toArray 73)).alloc (.cells #[] 5)).heap.size = w.heap.size + 3 := by simp
  have hs1 : ((w.alloc (.cells #[.slice va st.length vc, ws.v3] 69)).alloc (.cells (bV l).toArray 73)).heap.size = w.heap.size + 2 := by simp
  rw [hs1] at hr0
  clear HB0 HF0 HR0 hs1
  generalize (((w.alloc (.cells #[.slice va st.length vc, ws.v3] 69)).alloc (.cells (bV l).toArray 73)).alloc (.cells #[] 5)) = W at *
  go_loopw [5, 12] (fun vv i wr => ∃ (k : Nat) (cv : Value), k ≤ st.length ∧ i = .int .i64 k ∧ vv = cv ∧ wr.ownsRow 0 5 1 cv (nmK st l k).length (byV (nmK st l k)) ∧ Blk wr (w.heap.size + 1) (bV l).toArray 73 ∧ (∀ j, cv.ownBlock = some j → w.heap.size + 2 ≤ j) ∧ Fr (fun _ => False) w wr ∧ ∃ g c, cv = .slice (some ⟨g, 0, none⟩) (nmK st l k).length c) (fun _ i _ => st.length - (intOf i).toNat)
  case atStart => exact ⟨0, _, Nat.zero_le _, rfl, rfl, hr0, hb0, fun j hj => by simp [Value.ownBlock] at hj; omega, hf0, _, _, rfl⟩
  case round =>
    obtain ⟨k, cv, hk, rfl, rfl, hrow, hbq, hown, hfr, hform⟩ := hrel
    have HFO : Hid _ := hform
    clear hform
    by_cases hlt : (k : Int) < st.length
    · have hlt' : k < st.length := by omega
      have hpr := HP.out.fr hfr (fun _ _ h => h)
      obtain ⟨gg, cc, hv3, hcc, hgl⟩ := row_gg hpr (by omega)
      have hvv := HV.out.symm.trans hv3
      injection hvv with q1 q2 q3
      subst q1
      subst q3
      clear q2
      have hr := hpr.r2
      rw [hv3] at hr
      obtain ⟨x, hx⟩ : ∃ x, st[k]? = some x := ⟨_, List.getElem?_eq_getElem hlt'⟩
      obtain ⟨x0, x1, x2, x3, x4, x5, x6, x7, x8, x9⟩ := st10 hr hx
      have cl := mem_cell (k := k) hbq (by rw [HL.out]; omega)
      have hk26 : (k : Int) < 26 := by omega
      have HN : Hid (nameAt st k = x.name) := nameAt_at hx
      have HS : Hid (nmK st l (k + 1) = if mem l k = true then nmK st l k ++ [nameAt st k] else nmK st l k) := rfl
      have hnl := nmK_len st l k
      obtain ⟨acc, hacc⟩ : ∃ acc, nmK st l k = acc := ⟨_, rfl⟩
      rw [hacc] at hrow HS hnl
      have hbl := Blk.lt hbq
      have hfo := HFO.out
      rw [hacc] at hfo
      have HFO2 : Hid _ := hfo
      clear hfo
      clear hr hv3 hx hacc hpr
      obtain ⟨ra, rk, hcv⟩ := row_len hrow
      have HR : Hid _ := hrow
      have HCV : Hid _ := hcv
      clear hrow
      rw [hcv]
      clear hcv
      cases hm : mem l k with
      | false =>
        have HS2 : Hid (nmK st l (k + 1) = acc) := by show _ = _; rw [HS.out, if_neg (by simp [hm])]
        rw [hm] at cl
        clear HS
        go_wp2_with fail
        go_roundw
        case rel => exact ⟨k + 1, _, by omega, by go_num, HCV.out.symm, by rw [HS2.out]; exact row_fr HR.out (Fr.alloc (fun _ => False) _ _) (fun _ _ h => h), Blk.alloc hbq _, hown, hfr.allocr _, by rw [HS2.out]; exact HFO2.out⟩
        case measure => simp [intOf]; omega
      | true =>
        have HS2 : Hid (nmK st l (k + 1) = acc ++ [x.name]) := by show _ = _; rw [HS.out, if_pos hm, HN.out]
        rw [hm] at cl
        clear HS
        have hownR : ∀ j, (Value.slice ra acc.length rk).ownBlock = some j → w.heap.size + 2 ≤ j := by rw [← HCV.out]; exact hown
        have hrow := HR.out
        rw [HCV.out] at hrow
        have hrow2 := row_fr hrow ((Fr.alloc (fun _ => False) wr (.cells #[Value.int IntKind.u8 x.name.toNat, Value.int IntKind.i64 x.place, Value.int IntKind.i64 x.depth, Value.int IntKind.i64 x.kind, Value.int IntKind.i64 x.outer, Value.int IntKind.i64 x.end_, Value.string x.enter, Value.string x.leave, Value.bool x.rem, Value.bool x.wh] 126)).allocr (.cells #[.int .u8 x.name.toNat] 5)) (fun _ _ h => h)
        clear hrow
        go_wp2_with (at_builtin; go_must (refine wpList_append1 rfl _ _ _ rfl _ 1 1 elemU8 _ acc.length (byV acc) rfl hrow2 ⟨wr.heap.size + 1, 0, none⟩ 1 [.int .u8 (x.name.toNat : Int)] rfl rfl (by exact cells_new (Blk.new' _ _ _ _ (by simp))) (by intro u hu; simp at hu; subst hu; rfl) (by unfold maxLen; omega) (by omega) ?_); intro g cap w8 hrow8 hgrow hgo)
        go_roundw
        case rel =>
          have f8 : Fr (fun j => (Value.slice ra acc.length rk).ownBlock = some j) _ w8 := Fr.grown _ hgrow (fun _ e => e)
          have hfr8 : Fr (fun _ => False) w w8 := ((hfr.allocr _).allocr _).trans f8 (fun _ _ h => h) (fun i hi e => by have := hownR i e; omega)
          refine ⟨k + 1, _, by omega, by go_num, rfl, ?_, ?_, ?_, hfr8, g, cap, by rw [HS2.out]; simp⟩
          · rw [HS2.out]; simpa [byV] using hrow8
          · exact Blk.fr (Blk.alloc (Blk.alloc hbq _) _) f8 (fun e => by have := hownR _ e; omega)
          · intro j hj
            simp only [Value.ownBlock, Option.some.injEq] at hj
            subst hj
            rcases hgo with h | h
            · exact hownR _ h
            · simp at h; omega
        case measure => simp [intOf]; omega
    · have hkn : k = st.length := by omega
      subst hkn
      go_wp2_with fail
      go_ret
      exact ⟨_, rfl, hfr, hrow, fun j hj => (by have := hown j hj; omega), HFO.out⟩
end Go.Proofs.Ytmolmbeeoecnfaa
