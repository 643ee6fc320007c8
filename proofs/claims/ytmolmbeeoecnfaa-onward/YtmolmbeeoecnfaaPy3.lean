/- Own work: walks of the plan: scope; of the player: activeBelow, leftBy. -/
import Derived.Test.YtmolmbeeoecnfaaPy2
namespace Go.Proofs.Ytmolmbeeoecnfaa
open Go.RowKit Go.BigFrame
set_option linter.unusedVariables false
set_option linter.unusedSimpArgs false

/-- What is said of a transition's numbers. -/
def TrOk (st : List StP) (t : TrQ) : Prop := t.own < st.length ∧ 0 ≤ t.ts ∧ t.ts < st.length

theorem scF_bd (st : List StP) (hw : Wf st) (ts : Nat) : ∀ (f : Nat) (s : Int), -1 ≤ s → s < st.length → -1 ≤ scF st ts f s ∧ scF st ts f s < st.length
  | 0, s, _, _ => by simp [scF]; omega
  | f + 1, s, h1, h2 => by
    unfold scF
    split
    · omega
    · split
      · omega
      · have ho : s.toNat < st.length := by omega
        have hx := hw.ou s.toNat _ (List.getElem?_eq_getElem ho)
        have e := outAt_at (List.getElem?_eq_getElem ho)
        exact scF_bd st hw ts f _ (by omega) (by omega)

set_option maxRecDepth 100000 in
set_option maxHeartbeats 1000000 in
theorem scope_any (w : World) (st : List StP) (ws : Ws) (t : TrH) (hwf : Wf st) (hp : PlR w st ws) (ht : TrOk st t.q) :
    Calls Try.prog 80 #[.agg #[ws.v2, ws.v3], .agg t.cells.toArray] w fun e w' => e = .returned (.int .i64 (scOf st t.q)) ∧ Fr (fun _ => False) w w' := by
  obtain ⟨ht1, ht2, ht3⟩ := ht
  obtain ⟨gg, cc, hv3, hcc, hgl⟩ := row_gg hp (by omega)
  obtain ⟨y, hy⟩ : ∃ y, st[t.q.own]? = some y := ⟨_, List.getElem?_eq_getElem ht1⟩
  have HO : Hid _ := outAt_at hy
  have hou := hwf.ou _ _ hy
  have HY : Hid (st[t.q.own]? = some y) := hy
  have HP : Hid (PlR w st ws) := hp
  have hbp : Blk ((w.alloc (.cells #[ws.v2, ws.v3] 69)).alloc (.cells t.cells.toArray 123)) w.heap.size #[ws.v2, ws.v3] 69 := (Blk.new _ _ _).alloc _
  have hbt : Blk ((w.alloc (.cells #[ws.v2, ws.v3] 69)).alloc (.cells t.cells.toArray 123)) (w.heap.size + 1) t.cells.toArray 123 := Blk.new' _ _ _ _ (by simp)
  have hfw : Fr (fun _ => False) w ((w.alloc (.cells #[ws.v2, ws.v3] 69)).alloc (.cells t.cells.toArray 123)) := by (repeat (first | exact Fr.refl _ _ | assumption | refine Fr.drewNr ?_ _ | refine Fr.drewr ?_ | refine Fr.allocr ?_ _ | refine Fr.setCellr ?_ _ _ (by first | exact Or.inl rfl | (right; simp; done) | (right; simp; omega))))
  have hpw := hp.fr0 hfw
  have hr0 := hpw.r2
  have HV : Hid (ws.v2 = .slice (some ⟨gg, 0, none⟩) st.length cc) := hv3
  rw [hv3] at hr0 hbp hbt hfw hpw ⊢
  obtain ⟨-, -, -, -, y4, -⟩ := st10 hr0 hy
  clear hv3 hp hy hpw hr0
  have q0 : t.cells.toArray[0]? = some (.int .i64 t.q.own) := rfl
  have q5 : t.cells.toArray[5]? = some (.int .i64 t.q.ts) := rfl
  generalize t.cells.toArray = T at *
  go_enter Try.func80, Try.ntmps80
  go_wp2_with fail
  generalize ((w.alloc (.cells #[.slice (some ⟨gg, 0, none⟩) st.length cc, ws.v3] 69)).alloc (.cells T 123)) = W at *
  have HTS : Hid ((t.q.ts.toNat : Int) = t.q.ts) := Int.toNat_of_nonneg ht2
  go_loopw [5] (fun i wr => ∃ s : Int, ∃ f : Nat, -1 ≤ s ∧ s < st.length ∧ s + 1 ≤ f ∧ i = .int .i64 s ∧ Hid (scF st t.q.ts.toNat (f + 1) s = scOf st t.q) ∧ Fr (fun _ => False) W wr) (fun i _ => (intOf i + 1).toNat)
  case atStart => exact ⟨y.outer, st.length, by omega, by omega, by omega, rfl, by show _ = _; rw [scOf, HO.out], Fr.refl _ _⟩
  case round =>
    obtain ⟨s, f, hs1, hs2, hf, rfl, HS, hfr⟩ := hrel
    have hfo := hfw.thenr hfr (fun _ _ h => h)
    by_cases e : s = -1
    · have HI : Hid (scOf st t.q = -1) := by show _ = _; rw [← HS.out, scF, if_pos e]
      subst e
      go_wp2_with fail
      go_ret
      exact ⟨ret_i64 HI.out.symm, hfo⟩
    · obtain ⟨k, rfl⟩ : ∃ k : Nat, s = k := ⟨s.toNat, by omega⟩
      have hks : k < st.length := by omega
      have hpr := HP.out.fr0 hfo
      have hr := hpr.r2
      rw [HV.out] at hr
      obtain ⟨x, hx⟩ : ∃ x, st[k]? = some x := ⟨_, List.getElem?_eq_getElem hks⟩
      obtain ⟨-, -, -, x3, x4, -⟩ := st10 hr hx
      have hbr := Blk.fr hbp hfr (fun h => h)
      have c0 : wr.cell? ⟨w.heap.size, 0, none⟩ = some (.slice (some ⟨gg, 0, none⟩) st.length cc) := by rw [Blk.cell hbr]; rfl
      have c1 : wr.cell? ⟨w.heap.size, 1, none⟩ = some ws.v3 := by rw [Blk.cell hbr]; rfl
      have t5 : wr.cell? ⟨w.heap.size + 1, 5, none⟩ = some (.int .i64 t.q.ts) := by rw [Blk.cell (Blk.fr hbt hfr (fun h => h))]; exact q5
      have HK : Hid _ := kindAt_at hx
      have HU : Hid _ := outAt_at hx
      have hxo := hwf.ou k x hx
      have hkn : (k : Int).toNat = k := by omega
      clear hx hr hbr
      have he1 : ((k : Int) == -1) = false := by rw [beq_eq_false_iff_ne]; omega
      by_cases h1 : x.kind = 1
      · have h1' : ((x.kind : Int) == 1) = true := by rw [h1]; rfl
        go_wp2_with fail
        have hcall := isBelow_any wr st ws t.q.ts.toNat k hpr hks
        rw [HV.out, HTS.out] at hcall
        refine hcall.mono ?_
        clear hcall
        rintro e' w2 ⟨rfl, hf2⟩
        have hfr2 := hfr.thenr hf2 (fun _ _ h => h)
        have hfo2 := hfw.thenr hfr2 (fun _ _ h => h)
        have d0 : w2.cell? ⟨w.heap.size, 0, none⟩ = some (.slice (some ⟨gg, 0, none⟩) st.length cc) := by rw [Blk.cell (Blk.fr hbp hfr2 (fun h => h))]; rfl
        have hr2 := (HP.out.fr0 hfo2).r2
        rw [HV.out] at hr2
        obtain ⟨x', hx'⟩ : ∃ x, st[k]? = some x := ⟨_, List.getElem?_eq_getElem hks⟩
        obtain ⟨-, -, -, -, z4, -⟩ := st10 hr2 hx'
        have hxx : x'.outer = x.outer := by rw [← outAt_at hx', HU.out]
        rw [hxx] at z4
        clear hx' hr2 hpr
        cases hm : isB st t.q.ts.toNat k with
        | true =>
          have HI : Hid (scOf st t.q = k) := by
            show _ = _; rw [← HS.out, scF, if_neg e, if_pos]; rw [hkn, HK.out, h1, hm]; rfl
          go_wp2_with fail
          go_ret
          exact ⟨ret_i64 HI.out.symm, hfo2⟩
        | false =>
          have HI : Hid (scF st t.q.ts.toNat f x.outer = scOf st t.q) := by
            show _ = _; rw [← HS.out, scF, if_neg e, if_neg (by rw [hkn, hm]; simp), hkn, HU.out]
          go_wp2_with fail
          go_roundw
          case rel => exact ⟨x.outer, f - 1, by omega, by omega, by omega, rfl, by show _ = _; rw [show f - 1 + 1 = f by omega]; exact HI.out, hfr2⟩
          case measure => simp [intOf]; omega
      · have h1' : ((x.kind : Int) == 1) = false := by rw [beq_eq_false_iff_ne]; omega
        have h1'' : (x.kind == 1) = false := by rw [beq_eq_false_iff_ne]; omega
        have HI : Hid (scF st t.q.ts.toNat f x.outer = scOf st t.q) := by
          show _ = _; rw [← HS.out, scF, if_neg e, if_neg (by rw [hkn, HK.out, h1'']; simp), hkn, HU.out]
        clear hpr
        go_wp2_with fail
        go_roundw
        case rel => exact ⟨x.outer, f - 1, by omega, by omega, by omega, rfl, by show _ = _; rw [show f - 1 + 1 = f by omega]; exact HI.out, hfr⟩
        case measure => simp [intOf]; omega
end Go.Proofs.Ytmolmbeeoecnfaa
