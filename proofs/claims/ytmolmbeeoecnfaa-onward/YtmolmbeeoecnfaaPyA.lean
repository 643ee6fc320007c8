/- Own work: walks of the player: called. -/
import Derived.Test.YtmolmbeeoecnfaaPy9
namespace Go.Proofs.Ytmolmbeeoecnfaa
open Go.RowKit Go.BigFrame
set_option linter.unusedVariables false
set_option linter.unusedSimpArgs false

def cl1 (st : List StP) (th : List TrH) (act : List Bool) (ev : UInt8) (acc : List Nat) (s : Nat) : List Nat :=
  if kindAt st s = 0 ∧ mem act s = true then (if cfO st th act ev s ≠ -1 ∧ amng acc (cfO st th act ev s).toNat = false then acc ++ [(cfO st th act ev s).toNat] else acc) else acc
def clK (st : List StP) (th : List TrH) (act : List Bool) (ev : UInt8) (k : Nat) : List Nat := (List.range k).foldl (cl1 st th act ev) []
def clL (st : List StP) (th : List TrH) (act : List Bool) (ev : UInt8) : List Nat := clK st th act ev st.length
theorem clK_succ (st : List StP) (th : List TrH) (act : List Bool) (ev : UInt8) (k : Nat) : clK st th act ev (k + 1) = cl1 st th act ev (clK st th act ev k) k := by
  simp [clK, List.range_succ]
theorem clK_len (st : List StP) (th : List TrH) (act : List Bool) (ev : UInt8) : ∀ k, (clK st th act ev k).length ≤ k
  | 0 => by simp [clK]
  | k + 1 => by
    rw [clK_succ]
    have := clK_len st th act ev k
    unfold cl1
    split
    · split <;> simp <;> omega
    · omega

theorem elemInt : ElemOk Try.prog 115 3 1 8 where
  ht := Try.underlying115
  info := by
    obtain ⟨i, h0, h1, h2, h3⟩ := info_parts (show (Try.prog.info? 3).map (fun i => (i.zero, i.size, i.bytes)) = some (some (.int .i64 0), 1, 8) by kernel_rfl)
    exact ⟨i, _, h0, h1, h2, h3, rfl⟩
  pos := by decide
theorem row_none (w : World) (e : TypeId) (sz : Nat) : (w.alloc (.cells #[] e)).ownsRow 0 e sz (.slice (some ⟨w.heap.size, 0, none⟩) 0 0) 0 [] :=
  ⟨by simp, .inr ⟨w.heap.size, 0, #[], rfl, Nat.zero_le _, Blk.new w #[] e, Nat.le_refl _, Nat.zero_le _, by simp, by simp⟩⟩

set_option maxRecDepth 100000 in
set_option maxHeartbeats 1000000 in
theorem called_any (w : World) (b : Nat) (st : List StP) (ws : Ws) (p : Py) (vo : Value) (ev : UInt8) (hwf : Wf st) (hp : PyV w b st ws p vo) (ht : ThOk st ws.th) (hl : ws.th.length ≤ 1000000) :
    Calls Try.prog 49 #[.pointer (some ⟨b, 0, none⟩), .int .u8 ev.toNat] w fun e w' => ∃ v, e = .returned v ∧ Fr (fun _ => False) w w' ∧ w'.ownsRow 0 3 1 v (clL st ws.th p.act ev).length (inV (clL st ws.th p.act ev)) ∧ ∀ k, v.ownBlock = some k → w.heap.size ≤ k := by
  obtain ⟨va, vc, hv⟩ := row_len hp.pl.r2
  have hp0 := hp.fr0 (Fr.alloc _ w (.cells #[] 3))
  have c0 := hp0.c0
  rw [hv] at c0
  have HV : Hid _ := hv
  have HP : Hid (PyV w b st ws p vo) := hp
  have HT : Hid (ThOk st ws.th) := ht
  have HW : Hid (Wf st) := hwf
  clear hv hp ht hwf
  go_enter Try.func49, Try.ntmps49
  go_wp2_with fail
  clear c0 hp0
  go_loopw [5, 15] (fun vv i wr => ∃ (k : Nat) (cv : Value), k ≤ st.length ∧ i = .int .i64 k ∧ vv = cv ∧ wr.ownsRow 0 3 1 cv (clK st ws.th p.act ev k).length (inV (clK st ws.th p.act ev k)) ∧ (∀ j, cv.ownBlock = some j → w.heap.size ≤ j) ∧ Fr (fun _ => False) w wr) (fun _ i _ => st.length - (intOf i).toNat)
  case atStart => exact ⟨0, _, Nat.zero_le _, rfl, rfl, row_none w _ 1, fun j hj => by simp [Value.ownBlock] at hj; omega, by (repeat (first | exact Fr.refl _ _ | assumption | refine Fr.drewNr ?_ _ | refine Fr.drewr ?_ | refine Fr.allocr ?_ _ | refine Fr.setCellr ?_ _ _ (by first | exact Or.inl rfl | (right; simp; done) | (right; simp; omega))))⟩
  case round =>
    obtain ⟨k, cv, hk, rfl, rfl, hrow, hown, hfr⟩ := hrel
    by_cases hlt : (k : Int) < st.length
    · have hlt' : k < st.length := by omega
      have hlen := HW.out.len
      have hpr := HP.out.fr0 hfr
      obtain ⟨gg, cc, hv3, hcc, hgl⟩ := row_gg hpr.pl (by omega)
      have hvv := HV.out.symm.trans hv3
      injection hvv with q1 q2 q3
      subst q1
      subst q3
      clear q2
      have c0 := hpr.c0
      rw [hv3] at c0
      have hr := hpr.pl.r2
      rw [hv3] at hr
      obtain ⟨x, hx⟩ : ∃ x, st[k]? = some x := ⟨_, List.getElem?_eq_getElem hlt'⟩
      obtain ⟨-, -, -, x3, -⟩ := st10 hr hx
      have ca := hpr.ca k (by omega)
      have HK : Hid _ := kindAt_at hx
      have HS : Hid _ := clK_succ st ws.th p.act ev k
      have hcl := clK_len st ws.th p.act ev k
      obtain ⟨acc, hacc⟩ : ∃ acc, clK st ws.th p.act ev k = acc := ⟨_, rfl⟩
      rw [hacc] at hrow HS hcl
      clear hr hv3 hx hacc
      obtain ⟨ra, rk, hcv⟩ := row_len hrow
      have HR : Hid _ := hrow
      have HCV : Hid _ := hcv
      have HPR : Hid _ := hpr
      clear hrow hpr
      rw [hcv]
      clear hcv
      by_cases e : x.kind = 0
      · have e' : ((x.kind : Int) != 0) = false := by rw [e]; rfl
        rw [e] at x3
        cases h1 : mem p.act k with
        | false =>
          have HN : Hid (clK st ws.th p.act ev (k + 1) = acc) := by show _ = _; rw [HS.out, cl1, if_neg (by rw [h1]; simp)]
          rw [h1] at ca
          go_wp2_with fail
          go_roundw
          case rel => exact ⟨k + 1, _, by omega, by go_num, HCV.out.symm, by rw [HN.out]; exact HR.out, hown, hfr⟩
          case measure => simp [intOf]; omega
        | true =>
          have HN : Hid (clK st ws.th p.act ev (k + 1) = if cfO st ws.th p.act ev k ≠ -1 ∧ amng acc (cfO st ws.th p.act ev k).toNat = false then acc ++ [(cfO st ws.th p.act ev k).toNat] else acc) := by
            show _ = _; rw [HS.out, cl1, if_pos ⟨by rw [HK.out, e], h1⟩]
          rw [h1] at ca
          go_wp2_with fail
          refine (calledFrom_any _ b st ws p vo k ev HW.out HPR.out HT.out hl hlt').mono ?_
          rintro e2 w2 ⟨rfl, hf2⟩
          have hfr2 := hfr.thenr hf2 (fun _ _ h => h)
          have hrow2 := row_fr HR.out hf2 (fun _ _ h => h)
          have hcb := cfF_bd st ws.th p.act ev (st.length + 1) k
          obtain ⟨t, hct⟩ : ∃ t, cfO st ws.th p.act ev k = t := ⟨_, rfl⟩
          rw [hct] at HN ⊢
          have hcb' : -1 ≤ t ∧ t < (ws.th.length : Int) := by rw [← hct]; exact hcb
          clear hcb hct
          by_cases h2 : t = -1
          · have HN2 : Hid (clK st ws.th p.act ev (k + 1) = acc) := by show _ = _; rw [HN.out, if_neg (fun h => h.1 h2)]
            subst h2
            clear HN
            go_wp2_with fail
            go_roundw
            case rel => exact ⟨k + 1, _, by omega, by go_num, HCV.out.symm, by rw [HN2.out]; exact hrow2, hown, hfr2⟩
            case measure => simp [intOf]; omega
          · obtain ⟨n, rfl⟩ : ∃ n : Nat, t = n := ⟨t.toNat, by omega⟩
            have h2' : ((n : Int) != -1) = true := by simp
            have h2'' : ((n : Int) == -1) = false := by simp
            go_wp2_with fail
            have hcall := isAmong_any w2 acc _ n hrow2 (by omega)
            rw [HCV.out] at hcall
            refine hcall.mono ?_
            clear hcall
            rintro e3 w3 ⟨rfl, hf3⟩
            have hfr3 := hfr2.thenr hf3 (fun _ _ h => h)
            have hrow3 := row_fr hrow2 hf3 (fun _ _ h => h)
            cases h3 : amng acc n with
            | true =>
              have HN2 : Hid (clK st ws.th p.act ev (k + 1) = acc) := by show _ = _; rw [HN.out, if_neg (fun h => by simp [h3] at h)]
              go_wp2_with fail
              go_roundw
              case rel => exact ⟨k + 1, _, by omega, by go_num, HCV.out.symm, by rw [HN2.out]; exact hrow3, hown, hfr3⟩
              case measure => simp [intOf]; omega
            | false =>
              have HN2 : Hid (clK st ws.th p.act ev (k + 1) = acc ++ [n]) := by show _ = _; rw [HN.out, if_pos ⟨h2, by simpa using h3⟩]; rfl
              have hrow4 := row_fr hrow3 (Fr.alloc (fun _ => False) w3 (.cells #[.int .i64 n] 3)) (fun _ _ h => h)
              have hownR : ∀ j, (Value.slice ra acc.length rk).ownBlock = some j → w.heap.size ≤ j := by rw [← HCV.out]; exact hown
              rw [HCV.out] at hrow4
              clear HN hrow3 hrow2
              go_wp2_with (at_builtin; go_must (refine wpList_append1 rfl _ _ _ rfl _ 1 8 elemInt _ acc.length (inV acc) rfl hrow4 ⟨w3.heap.size, 0, none⟩ 1 [.int .i64 (n : Int)] rfl rfl (by exact cells_new (Blk.new' _ _ _ _ (by simp))) (by intro u hu; simp at hu; subst hu; rfl) (by unfold maxLen; omega) (by omega) ?_); intro g cap w4 hrow5 hgrow hgo)
              go_roundw
              case rel =>
                have hfr4 : Fr (fun _ => False) w w4 := (hfr3.allocr _).trans (Fr.grown (fun j => (Value.slice ra acc.length rk).ownBlock = some j) hgrow (fun _ e => e)) (fun _ _ h => h) (fun i hi e => by have := hownR i e; omega)
                refine ⟨k + 1, _, by omega, by go_num, rfl, ?_, ?_, hfr4⟩
                · rw [HN2.out]
                  simpa [inV] using hrow5
                · intro j hj
                  simp only [Value.ownBlock, Option.some.injEq] at hj
                  subst hj
                  have hsz := hfr3.size
                  rcases hgo with h | h
                  · exact hownR _ h
                  · simp at h; omega
              case measure => simp [intOf]; omega
      · have e' : ((x.kind : Int) != 0) = true := by simp; omega
        have e'' : ((x.kind : Int) == 0) = false := by rw [beq_eq_false_iff_ne]; omega
        have HN : Hid (clK st ws.th p.act ev (k + 1) = acc) := by show _ = _; rw [HS.out, cl1, if_neg (fun h => e (by rw [← HK.out]; exact h.1))]
        go_wp2_with fail
        go_roundw
        case rel => exact ⟨k + 1, _, by omega, by go_num, HCV.out.symm, by rw [HN.out]; exact HR.out, hown, hfr⟩
        case measure => simp [intOf]; omega
    · have hks : k = st.length := by omega
      subst hks
      go_wp2_with fail
      go_ret
      exact ⟨_, rfl, hfr, hrow, hown⟩
end Go.Proofs.Ytmolmbeeoecnfaa
