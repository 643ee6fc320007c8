/- Own work: CoW8, CoY, TD7, TD8. -/
import Derived.Test.YtmolmbeeoecnfaaGreatDoorF29
import Derived.Test.YtmolmbeeoecnfaaGreatDoorF36
/- Own work: the walk of the program's Compile. -/
namespace Go.Proofs.YtmolmbeeoecnfaaGreatDoor
open Go.RowKit Go.BigFrame
set_option linter.unusedVariables false
set_option linter.unusedSimpArgs false


theorem evB_congr {th th' : List TrH} (h : th.map TrH.q = th'.map TrH.q) (ev : UInt8) : evB th ev = evB th' ev := by
 funext j
 have h1 : (th.map TrH.q)[j]? = (th'.map TrH.q)[j]? := by rw [h]
 rw [List.getElem?_map, List.getElem?_map] at h1
 unfold evB
 cases hx : th[j]? with
 | none => rw [hx] at h1; cases hy : th'[j]? with
  | none => rfl
  | some y => rw [hy] at h1; cases h1
 | some x => rw [hx] at h1; cases hy : th'[j]? with
  | none => rw [hy] at h1; cases h1
  | some y =>
   rw [hy] at h1
   simp only [Option.map_some, Option.some.injEq] at h1
   simp only [h1]
theorem hasE_congr {th th' : List TrH} (h : th.map TrH.q = th'.map TrH.q) (ev : UInt8) : hasE th ev = hasE th' ev := by
 have hl : th.length = th'.length := by have := congrArg List.length h; simpa using this
 unfold hasE
 rw [evB_congr h, hl]
theorem evP_congr {th th' : List TrH} (h : th.map TrH.q = th'.map TrH.q) : ∀ k, evP th k = evP th' k
 | 0 => rfl
 | k + 1 => by rw [evP, evP, hasE_congr h, evP_congr h k]
theorem ceK_congr {th th' : List TrH} (h : th.map TrH.q = th'.map TrH.q) (st : List StP) (es : ByteArray) (x : Sx) (l : List Sx) : ∀ k, ceK st th es x l k = ceK st th' es x l k
 | 0 => rfl
 | k + 1 => by
  have e : spS st th (byte es k) x = spS st th' (byte es k) x := spF_congr h st _ _
  rw [ceK, ceK, ceK_congr h st es x l k, e]
theorem coF_congr {th th' : List TrH} (h : th.map TrH.q = th'.map TrH.q) (st : List StP) (es : ByteArray) (lim : Int) : ∀ (f : Nat) (l : List Sx) (rows : List ByteArray), coF st th es lim f l rows = coF st th' es lim f l rows
 | 0, _, _ => rfl
 | f + 1, l, rows => by
  rw [coF, coF]
  split
  ·rfl
  ·split
   ·rfl
   ·rw [ceK_congr h, coF_congr h st es lim f]
theorem coR_congr {th th' : List TrH} (h : th.map TrH.q = th'.map TrH.q) (st : List StP) (lim : Int) : coR st th lim = coR st th' lim := by
 have e : evS th = evS th' := by unfold evS; rw [evP_congr h]
 unfold coR
 rw [e, coF_congr h]

def limOf (rows : Int) : Int := if 99 < rows then 99 else rows
def cpS (s : ByteArray) (rows : Int) : Option ByteArray := coR (unSt s) (th0 s) (limOf rows)
def cpV (s : ByteArray) (rows : Int) : Value :=
 if (unE s).1 = 0 then (match cpS s rows with | some t => .tuple #[.string t, .int .i64 0, .int .i64 0] | none => .tuple #[.string ⟨#[]⟩, .int .i64 7, .int .i64 0])
 else .tuple #[.string ⟨#[]⟩, .int .i64 (unE s).1, .int .i64 (unE s).2]

set_option maxRecDepth 100000 in
set_option maxHeartbeats 1000000 in
theorem pcompile_any (H : Nat) (T : World → Prop) (hI : ItO H T) (w : World) (s : ByteArray) (rows : Int) (hm : s.size ≤ maxLen) (hT : T w) (hH : H ≤ w.heap.size) (hr : -9223372036854775808 ≤ rows ∧ rows ≤ 9223372036854775807) :
  Calls Tryz.prog 5 #[.string s, .int .i64 rows] w fun e w' => e = .returned (cpV s rows) ∧ Fr (fun _ => False) w w' := by
 have HI : Hid _ := hI
 have HT : Hid (T w) := hT
 have HH : Hid (H ≤ w.heap.size) := hH
 clear hI hT hH
 go_enter Tryz.func5, Tryz.ntmps5
 go_wp2_with fail
 refine (understand_any w s hm).mono ?_
 rintro e w1 ⟨a2, n2, k2, a3, n3, k3, rfl, hfr, hpl⟩
 by_cases hE : (unE s).1 = 0
 ·obtain ⟨pb, th, hpv, hth, hown⟩ := hpl hE
  have hP := plan_ok s hE
  rw [← hth] at hP
  have hr1 := hpv.toR [] 0
  have hb1 := Blk.new w1 #[.slice a2 n2 k2, .slice a3 n3 k3] 39
  have hfa : Fr (fun _ => False) w1 (w1.alloc (.cells #[.slice a2 n2 k2, .slice a3 n3 k3] 39)) := by (repeat (first | exact Fr.refl _ _ | assumption | refine Fr.drewNr ?_ _ | refine Fr.drewr ?_ | refine Fr.allocr ?_ _ | refine Fr.setCellr ?_ _ _ (by first | exact Or.inl rfl | (right; simp; done) | (right; simp; omega))))
  have HCP : Hid (∀ lim : Int, lim ≤ 99 → Calls Tryz.prog 13 #[.agg #[.slice a2 n2 k2, .slice a3 n3 k3], .int .i64 lim] (w1.alloc (.cells #[.slice a2 n2 k2, .slice a3 n3 k3] 39)) fun e w' => e = .returned (coV (coR (unSt s) (th0 s) lim)) ∧ Fr (fun _ => False) (w1.alloc (.cells #[.slice a2 n2 k2, .slice a3 n3 k3] 39)) w') := fun lim hlim => by
   have h := compile_any H T HI.out (w1.alloc (.cells #[.slice a2 n2 k2, .slice a3 n3 k3] 39)) (unSt s) a2 a3 n2 k2 n3 k3 th (hr1.fr0 hfa) (fun k hk => by
    have h2 : k < w1.heap.size := by
     rcases hk with h | h | ⟨t, ht, h⟩
     ·exact (World.ownsRow.lt hr1.r2 k h).2
     ·exact (World.ownsRow.lt hr1.r3 k h).2
     ·exact (World.ownsRow.lt (hr1.rc t ht) k h).2
    have := hfa.size
    omega) (HI.out.keep w _ _ HT.out (hfr.thenr hfa (fun _ _ h => h)) (fun _ h => h.elim)) (by have := HH.out; have := hfr.size; have := hfa.size; omega) hP (un_lg hE ⟨#[]⟩).1 lim hlim
   rw [coR_congr (hth.trans (th0_q s).symm)] at h
   exact h
  have HV : Hid (cpV s rows = match cpS s rows with | some t => .tuple #[.string t, .int .i64 0, .int .i64 0] | none => .tuple #[.string ⟨#[]⟩, .int .i64 7, .int .i64 0]) := by show _ = _; rw [cpV, if_pos hE]
  have HF : Hid (Fr (fun _ => False) w (w1.alloc (.cells #[.slice a2 n2 k2, .slice a3 n3 k3] 39))) := hfr.thenr hfa (fun _ _ h => h)
  have hne : (((unE s).1 : Int) != 0) = false := by rw [hE]; rfl
  clear hE hpl hpv hth hown hP hr1 hfa hfr
  by_cases hd : (99 : Int) < rows
  ·have HL : Hid (limOf rows = 99) := by show _ = _; rw [limOf, if_pos hd]
   have HC : Hid _ := HCP.out 99 (Int.le_refl _)
   have HS : Hid (cpS s rows = coR (unSt s) (th0 s) 99) := by show _ = _; rw [cpS, HL.out]
   clear HCP HL
   generalize hcr : coR (unSt s) (th0 s) 99 = cr at *
   have HCR : Hid (coR (unSt s) (th0 s) 99 = cr) := hcr
   clear hcr
   cases cr with
   | none =>
    have HV2 : Hid (cpV s rows = .tuple #[.string ⟨#[]⟩, .int .i64 7, .int .i64 0]) := by show _ = _; rw [HV.out, HS.out]
    have HC2 : Hid _ := HC.out
    unfold coV at HC2
    go_wp2_with fail
    refine Calls.mono HC2.out ?_
    rintro e w3 ⟨rfl, hf3⟩
    have hf4 := HF.out.thenr hf3 (fun _ _ h => h)
    go_wp2_with fail
    exact bodyPost_ret (v := .tuple #[.string ⟨#[]⟩, .int .i64 7, .int .i64 0]) (by simp [results, Tryz.results5, go_sem]) rfl ⟨by rw [HV2.out], hf4⟩
   | some t =>
    have HV2 : Hid (cpV s rows = .tuple #[.string t, .int .i64 0, .int .i64 0]) := by show _ = _; rw [HV.out, HS.out]
    have HC2 : Hid _ := HC.out
    unfold coV at HC2
    go_wp2_with fail
    refine Calls.mono HC2.out ?_
    rintro e w3 ⟨rfl, hf3⟩
    have hf4 := HF.out.thenr hf3 (fun _ _ h => h)
    go_wp2_with fail
    exact bodyPost_ret (v := .tuple #[.string t, .int .i64 0, .int .i64 0]) (by simp [results, Tryz.results5, go_sem]) rfl ⟨by rw [HV2.out], hf4⟩
  ·have hd' : decide ((99 : Int) < rows) = false := by simpa using hd
   have HL : Hid (limOf rows = rows) := by show _ = _; rw [limOf, if_neg hd]
   have HC : Hid _ := HCP.out rows (by omega)
   have HS : Hid (cpS s rows = coR (unSt s) (th0 s) rows) := by show _ = _; rw [cpS, HL.out]
   clear HCP HL hd
   generalize hcr : coR (unSt s) (th0 s) rows = cr at *
   have HCR : Hid (coR (unSt s) (th0 s) rows = cr) := hcr
   clear hcr
   cases cr with
   | none =>
    have HV2 : Hid (cpV s rows = .tuple #[.string ⟨#[]⟩, .int .i64 7, .int .i64 0]) := by show _ = _; rw [HV.out, HS.out]
    have HC2 : Hid _ := HC.out
    unfold coV at HC2
    go_wp2_with fail
    refine Calls.mono HC2.out ?_
    rintro e w3 ⟨rfl, hf3⟩
    have hf4 := HF.out.thenr hf3 (fun _ _ h => h)
    go_wp2_with fail
    exact bodyPost_ret (v := .tuple #[.string ⟨#[]⟩, .int .i64 7, .int .i64 0]) (by simp [results, Tryz.results5, go_sem]) rfl ⟨by rw [HV2.out], hf4⟩
   | some t =>
    have HV2 : Hid (cpV s rows = .tuple #[.string t, .int .i64 0, .int .i64 0]) := by show _ = _; rw [HV.out, HS.out]
    have HC2 : Hid _ := HC.out
    unfold coV at HC2
    go_wp2_with fail
    refine Calls.mono HC2.out ?_
    rintro e w3 ⟨rfl, hf3⟩
    have hf4 := HF.out.thenr hf3 (fun _ _ h => h)
    go_wp2_with fail
    exact bodyPost_ret (v := .tuple #[.string t, .int .i64 0, .int .i64 0]) (by simp [results, Tryz.results5, go_sem]) rfl ⟨by rw [HV2.out], hf4⟩
 ·have hne : (((unE s).1 : Int) != 0) = true := by rw [bne_iff_ne]; omega
  have HV : Hid (cpV s rows = .tuple #[.string ⟨#[]⟩, .int .i64 (unE s).1, .int .i64 (unE s).2]) := by show _ = _; rw [cpV, if_neg hE]
  have HF : Hid (Fr (fun _ => False) w w1) := hfr
  clear hE hfr hpl
  go_wp2_with fail
  exact bodyPost_ret (v := .tuple #[.string ⟨#[]⟩, .int .i64 (unE s).1, .int .i64 (unE s).2]) (by simp [results, Tryz.results5, go_sem]) rfl ⟨by rw [HV.out], HF.out.allocr _⟩

theorem limOf_le (rows : Int) : limOf rows ≤ 99 := by unfold limOf; split <;> omega
theorem un_evt {s : ByteArray} (h : (unE s).1 = 0) : ∀ t ∈ th0 s, isE t.q.event = true := by
 intro t ht
 exact un_ev h t.q (by rw [← th0_q]; exact List.mem_map_of_mem ht)
structure CpT (s : ByteArray) (rows : Int) (t : ByteArray) (l : List Sx) (Cs : List (List Cl)) : Prop where
 ok : (unE s).1 = 0
 ct : CoT (unSt s) (th0 s) (limOf rows) l Cs
 tx : t = ⟨(taK (evS (th0 s)) ⟨(begP (unSt s)).out.toArray⟩ (Cs.map txC) Cs.length).toArray⟩
theorem cpS_some {s t : ByteArray} {rows : Int} (h0 : (unE s).1 = 0) (h : cpS s rows = some t) : ∃ l Cs, CpT s rows t l Cs := by
 obtain ⟨l, Cs, h1, h2⟩ := coR_some h
 exact ⟨l, Cs, h0, h1, h2⟩
theorem un_dga (s : ByteArray) : ∀ t ∈ th0 s, DgA t.q.acts := by
 intro t ht
 exact (un_dd s).2 t.q (by rw [← th0_q]; exact List.mem_map_of_mem ht)
section
variable {s t : ByteArray} {rows : Int} {l : List Sx} {Cs : List (List Cl)} (h : CpT s rows t l Cs)
include h
theorem CpT.size : t.size ≤ 600000 := by
 have hp := plan_ok s h.ok
 have hw : sW (unSt s) + tW ((th0 s).map TrH.q) ≤ 160 := by rw [th0_q]; exact un_wt h.ok
 have h1 := h.ct.len_ok (limOf_le rows) (un_lg h.ok ⟨#[]⟩).1 (fun t ht => (hp.trs t.q (by rw [← th0_q]; exact List.mem_map_of_mem ht)).1) hw
 rw [h.tx]
 show (taK _ _ _ _).toArray.size ≤ _
 simpa using h1
theorem CpT.rd : rdT t = (0, 0) := by
 have h1 := h.size
 rw [h.tx] at h1 ⊢
 exact h.ct.right (un_dd s).1 (un_dga s) (limOf_le rows) (by
  have h2 : (taK (evS (th0 s)) ⟨(begP (unSt s)).out.toArray⟩ (Cs.map txC) Cs.length).toArray.size ≤ 600000 := h1
  simpa using h2)
theorem CpT.form : (formP t).1 = true ∧ (formP t).2.2.events = evS (th0 s) ∧ (formP t).2.2.begin_ = ⟨(begP (unSt s)).out.toArray⟩ ∧ ∃ p, (formP t).2.2.rows = rtR p (rts Cs) := by
 have h1 := h.ct.form (un_dd s).1 (un_dga s) (limOf_le rows)
 rw [h.tx, h1]
 exact ⟨rfl, rfl, rfl, _, rfl⟩
theorem CpT.ld : ldE t = (0, 0) := by rw [load_eq, h.rd]
theorem CpT.run (es : ByteArray) (he : es.size ≤ 400) : ∃ n, runX t es = (pO s es, n, 0, 0) ∧ l[n]? = some (sxP (plQ s es)) := by
 obtain ⟨f1, f2, f3, p, f4⟩ := h.form
 obtain ⟨n, h1, h2⟩ := h.ct.sim (un_dd s).1 (un_dga s) (limOf_le rows) (un_evt h.ok) p es es.size
 refine ⟨n, ?_, h2⟩
 rw [runX, if_neg (by omega), h.ld, if_neg (by simp), f2, f3, f4, h1, pO, if_pos h.ok]
 rfl
end

set_option maxRecDepth 100000 in
set_option maxHeartbeats 1000000 in
theorem dcells_any (w : World) (tb : Nat) (ev bg : ByteArray) (v : Value) (th : List RwH) (hT : Blk w tb #[.string ev, .string bg, v] 65) (hV : DTbV w v th) (wd m : Nat) (hok : TbOk (th.map RwH.q) wd m) (n : Nat) (hn : n < th.length) :
    Calls Tryz.prog 23 #[.pointer (some ⟨tb, 0, none⟩), .int .i64 n] w fun e w' => Fr (fun _ => False) w w' ∧ ∃ ca cc, e = .returned (.slice ca wd cc) ∧ w.ownsRow 0 71 2 (.slice ca wd cc) wd ((cellsOf (th.map RwH.q) n).flatMap clD) := by
  obtain ⟨gg, cc, hv, hcc⟩ := row_form hV.r (by omega)
  subst hv
  have hn' : (n : Int) < th.length := by omega
  have key : ∀ k (x : RwH), th[k]? = some x → ∀ o v, o < 4 → x.dcells[o]? = some v → w.cell? ⟨gg, k * 4 + o, none⟩ = some v := fun k x hx o v ho hv =>
    (row_cell hV.r (k * 4 + o) v (by rw [flat_get RwH.dcells 4 RwH.dlen th k o x hx ho]; exact hv)).1
  obtain ⟨y, hy⟩ : ∃ y, th[n]? = some y := ⟨_, List.getElem?_eq_getElem hn⟩
  have x1 := key n y hy 1 _ (by omega) rfl
  have x2 := key n y hy 2 _ (by omega) rfl
  have t2 : w.cell? ⟨tb, 2, none⟩ = some (.slice (some ⟨gg, 0, none⟩) th.length cc) := by rw [Blk.cell hT]; rfl
  have hyR : (th.map RwH.q)[n]? = some y.q := by simp [hy]
  rcases hok.row n y.q hyR with ⟨h1, h2, x, h3, h4⟩ | ⟨h1, h2, h3⟩
  · obtain ⟨mm, hmm⟩ : ∃ mm : Nat, y.q.same = mm := ⟨y.q.same.toNat, by omega⟩
    rw [hmm, Int.toNat_natCast] at h3
    obtain ⟨z, hz, hzq⟩ : ∃ z, th[mm]? = some z ∧ z.q = x := by
      rw [List.getElem?_map] at h3
      cases hz : th[mm]? with
      | none => rw [hz] at h3; cases h3
      | some z => rw [hz] at h3; exact ⟨z, rfl, by simpa using h3⟩
    subst hzq
    have hml : mm < th.length := (List.getElem?_eq_some_iff.1 hz).1
    have hml' : (mm : Int) < th.length := by omega
    have hcs : cellsOf (th.map RwH.q) n = z.q.cells := by unfold cellsOf; rw [hyR]; simp only; rw [if_pos h1, hmm, Int.toNat_natCast, h3]
    have hzl : z.q.cells.length = wd := by
      rcases hok.row mm z.q h3 with ⟨h5, -⟩ | ⟨-, h6, -⟩
      · omega
      · exact h6
    have u2 := key mm z hz 2 _ (by omega) rfl
    have hrc := hV.rc z (List.mem_of_getElem? hz)
    rw [hzl] at hrc
    obtain ⟨ca, ce, hcv⟩ := row_len hrc
    rw [hcv] at hrc u2
    rw [hmm] at x1
    have HC : Hid (w.ownsRow 0 71 2 (.slice ca wd ce) wd ((cellsOf (th.map RwH.q) n).flatMap clD)) := by rw [hcs]; exact hrc
    obtain ⟨ya, yc, hyv⟩ := row_len (hV.rc y (List.mem_of_getElem? hy))
    rw [hyv] at x2
    clear hrc hcs hzl key hyR hy hok hV h3 h2 hmm h4 hz h1 hT hcv hyv
    go_enter Tryz.func23, Tryz.ntmps23
    go_wp2_with fail
    first
      | (go_ret
         exact ⟨by (repeat (first | exact Fr.refl _ _ | assumption | refine Fr.drewNr ?_ _ | refine Fr.drewr ?_ | refine Fr.allocr ?_ _ | refine Fr.setCellr ?_ _ _ (by first | exact Or.inl rfl | (right; simp; done) | (right; simp; omega)))), ca, ce, rfl, HC.out⟩)
      | (go_big_quiet (fail)
         go_wp2_with fail
         go_ret
         exact ⟨by (repeat (first | exact Fr.refl _ _ | assumption | refine Fr.drewNr ?_ _ | refine Fr.drewr ?_ | refine Fr.allocr ?_ _ | refine Fr.setCellr ?_ _ _ (by first | exact Or.inl rfl | (right; simp; done) | (right; simp; omega)))), ca, ce, rfl, HC.out⟩)
      | (go_big_quiet (fail)
         go_wp2_with fail
         go_big_quiet (fail)
         go_wp2_with fail
         go_ret
         exact ⟨by (repeat (first | exact Fr.refl _ _ | assumption | refine Fr.drewNr ?_ _ | refine Fr.drewr ?_ | refine Fr.allocr ?_ _ | refine Fr.setCellr ?_ _ _ (by first | exact Or.inl rfl | (right; simp; done) | (right; simp; omega)))), ca, ce, rfl, HC.out⟩)
  · have hcs : cellsOf (th.map RwH.q) n = y.q.cells := by unfold cellsOf; rw [hyR]; simp only; rw [if_neg (by omega)]
    have hrc := hV.rc y (List.mem_of_getElem? hy)
    rw [h2] at hrc
    obtain ⟨ca, ce, hcv⟩ := row_len hrc
    rw [hcv] at hrc x2
    rw [h1] at x1
    have HC : Hid (w.ownsRow 0 71 2 (.slice ca wd ce) wd ((cellsOf (th.map RwH.q) n).flatMap clD)) := by rw [hcs]; exact hrc
    clear hrc hcs key hyR hy hok hV h3 h2 h1 hT hcv
    go_enter Tryz.func23, Tryz.ntmps23
    go_wp2_with fail
    first
      | (go_ret
         exact ⟨by (repeat (first | exact Fr.refl _ _ | assumption | refine Fr.drewNr ?_ _ | refine Fr.drewr ?_ | refine Fr.allocr ?_ _ | refine Fr.setCellr ?_ _ _ (by first | exact Or.inl rfl | (right; simp; done) | (right; simp; omega)))), ca, ce, rfl, HC.out⟩)
      | (go_big_quiet (fail)
         go_wp2_with fail
         go_ret
         exact ⟨by (repeat (first | exact Fr.refl _ _ | assumption | refine Fr.drewNr ?_ _ | refine Fr.drewr ?_ | refine Fr.allocr ?_ _ | refine Fr.setCellr ?_ _ _ (by first | exact Or.inl rfl | (right; simp; done) | (right; simp; omega)))), ca, ce, rfl, HC.out⟩)

theorem runX_long (s es : ByteArray) (h : 600000 < s.size ∨ 400 < es.size) : runX s es = (⟨#[]⟩, 0, 1, 0) := by
 unfold runX
 by_cases h2 : 400 < es.size
 ·rw [if_pos h2]
 ·have h3 : ldE s = (1, 0) := by rw [ldE, if_pos (h.resolve_right h2)]
  rw [if_neg h2, h3]; rfl

set_option maxRecDepth 100000 in
set_option maxHeartbeats 1000000 in
theorem rrun_any (w : World) (s es : ByteArray) (hm : s.size ≤ maxLen) (hme : es.size ≤ maxLen) :
  Calls Tryz.prog 10 #[.string s, .string es] w fun e w' => e = .returned (.tuple #[.string (runX s es).1, .int .i64 (runX s es).2.1, .int .i64 (runX s es).2.2.1, .int .i64 (runX s es).2.2.2]) ∧ Fr (fun _ => False) w w' := by
 have hme' := hme
 have hm' := hm
 unfold maxLen at hme' hm'
 by_cases hb1 : (600000 : Int) < s.size
 ·have HE : Hid (runX s es = (⟨#[]⟩, 0, 1, 0)) := runX_long s es (Or.inl (by omega))
  go_enter Tryz.func10, Tryz.ntmps10
  go_wp2_with fail
  refine bodyPost_ret (v := .tuple #[.string ⟨#[]⟩, .int .i64 0, .int .i64 1, .int .i64 0]) (by simp [results, Tryz.results10, go_sem]) rfl ⟨by rw [HE.out]; rfl, by (repeat (first | exact Fr.refl _ _ | assumption | refine Fr.drewNr ?_ _ | refine Fr.drewr ?_ | refine Fr.allocr ?_ _ | refine Fr.setCellr ?_ _ _ (by first | exact Or.inl rfl | (right; simp; done) | (right; simp; omega))))⟩
 ·have hd1 : decide ((600000 : Int) < s.size) = false := by simpa using hb1
  by_cases hb2 : (400 : Int) < es.size
  ·have HE : Hid (runX s es = (⟨#[]⟩, 0, 1, 0)) := runX_long s es (Or.inr (by omega))
   go_enter Tryz.func10, Tryz.ntmps10
   go_wp2_with fail
   refine bodyPost_ret (v := .tuple #[.string ⟨#[]⟩, .int .i64 0, .int .i64 1, .int .i64 0]) (by simp [results, Tryz.results10, go_sem]) rfl ⟨by rw [HE.out]; rfl, by (repeat (first | exact Fr.refl _ _ | assumption | refine Fr.drewNr ?_ _ | refine Fr.drewr ?_ | refine Fr.allocr ?_ _ | refine Fr.setCellr ?_ _ _ (by first | exact Or.inl rfl | (right; simp; done) | (right; simp; omega))))⟩
  ·have hd2 : decide ((400 : Int) < es.size) = false := by simpa using hb2
   have hes : es.size ≤ 400 := by omega
   go_enter Tryz.func10, Tryz.ntmps10
   go_wp2_with fail
   refine (readTableD_any w s hm).mono ?_
   rintro e w1 ⟨ev, bg, va, n, vc, rfl, hfr, hyes⟩
   by_cases h0 : (rdT s).1 = 0
   ·have hl0 : (ldE s).1 = 0 := by rw [load_eq]; exact h0
    have HE : Hid (runX s es = ((runS (formP s).2.2.rows (formP s).2.2.events (formP s).2.2.begin_ es es.size).1, (runS (formP s).2.2.rows (formP s).2.2.events (formP s).2.2.begin_ es es.size).2, 0, 0)) := by
     show _ = _; rw [runX, if_neg (by omega), if_neg (fun h => h hl0)]
    obtain ⟨rfl, rfl, hs6, hK, h99, hsd, th, hV, rfl, hth, hlo⟩ := hyes h0
    have HOK : Hid (TbOk (th.map RwH.q) (formP s).2.2.events.size s.size) := by
     show TbOk _ _ _
     rw [hth]
     exact tbOk_of s hK h99 hsd
    have HBG : Hid ((formP s).2.2.begin_.size ≤ s.size) := form_bg s
    have HEV : Hid ((formP s).2.2.events.size ≤ s.size) := form_ev s
    rw [← hth] at HE
    rw [h0]
    clear hyes hsd hth h0 hl0
    generalize (formP s).2.2.events = ev at *
    generalize (formP s).2.2.begin_ = bg at *
    have hevs : ev.size ≤ 600000 := by have := HEV.out; omega
    have hbgs : bg.size ≤ 600000 := by have := HBG.out; omega
    have HT : Hid (Blk (w1.alloc (.cells #[.string ev, .string bg, .slice va th.length vc] 65)) w1.heap.size #[.string ev, .string bg, .slice va th.length vc] 65) := Blk.new _ _ _
    have HV : Hid (DTbV (w1.alloc (.cells #[.string ev, .string bg, .slice va th.length vc] 65)) (.slice va th.length vc) th) := hV.fr (Fr.alloc (fun _ => False) _ _) (fun _ _ h => h)
    have HFR : Hid (Fr (fun _ => False) w (w1.alloc (.cells #[.string ev, .string bg, .slice va th.length vc] 65))) := hfr.allocr _
    clear hV hfr
    go_wp2_with fail
    have hT0 := HT.out
    have hV0 := HV.out
    have hfr0 := HFR.out
    clear HT HV HFR
    generalize w1.alloc (.cells #[.string ev, .string bg, .slice va th.length vc] 65) = W at hT0 hV0 hfr0 ⊢
    generalize w1.heap.size = tb at hT0 ⊢
    go_loopw [11, 12, 13] (fun vo vn vi wr => ∃ j : Nat, j ≤ es.size ∧ vi = .int .i64 j ∧ vn = .int .i64 (runS (th.map RwH.q) ev bg es j).2 ∧ vo = .string (runS (th.map RwH.q) ev bg es j).1 ∧ Fr (fun _ => False) w wr ∧ Blk wr tb #[.string ev, .string bg, .slice va th.length vc] 65 ∧ DTbV wr (.slice va th.length vc) th) (fun _ _ vi _ => es.size - (intOf vi).toNat)
    case atStart => exact ⟨0, Nat.zero_le _, rfl, rfl, rfl, hfr0, hT0, hV0⟩
    case round =>
     clear hfr0 hT0 hV0
     obtain ⟨j, hj, rfl, rfl, rfl, hfr, hT, hV⟩ := hrel
     obtain ⟨hnb, hsb⟩ := HOK.out.run bg es j
     rw [List.length_map] at hnb
     by_cases hlt : (j : Int) < es.size
     ·have hlt' : j < es.size := by omega
      have hmul : j * (s.size + 1) ≤ 400 * 600001 := Nat.mul_le_mul (by omega) (by omega)
      have HX : Hid (byte es j = es[j]) := byte_in es j hlt'
      have HR : Hid (runS (th.map RwH.q) ev bg es (j + 1) = match colP ev (byte es j) with
       | none => ((runS (th.map RwH.q) ev bg es j).1 ++ ⟨#[46]⟩, (runS (th.map RwH.q) ev bg es j).2)
       | some k => ((runS (th.map RwH.q) ev bg es j).1 ++ ⟨#[46]⟩ ++ (cellOf (th.map RwH.q) (runS (th.map RwH.q) ev bg es j).2 k).acts, (cellOf (th.map RwH.q) (runS (th.map RwH.q) ev bg es j).2 k).dst)) := rfl
      have ho1 : (runS (th.map RwH.q) ev bg es j).1.size ≤ 1000000000 := by omega
      generalize (runS (th.map RwH.q) ev bg es j).1 = o1 at *
      generalize (runS (th.map RwH.q) ev bg es j).2 = n1 at *
      go_wp2_with fail
      refine (dcells_any _ tb ev bg _ th hT hV ev.size s.size HOK.out n1 hnb).mono ?_
      rintro e w2 ⟨hf2, ca, cc, rfl, hrow⟩
      have hT2 := Blk.fr hT hf2 (fun h => h)
      have hV2 := hV.fr hf2 (fun _ _ h => h)
      have hfr2 := hfr.thenr hf2 (fun _ _ h => h)
      have hrow2 := row_fr hrow hf2 (fun _ _ h => h)
      clear hT hV hfr hrow hf2
      go_wp2_with fail
      have HS1 : Hid ((o1 ++ ⟨#[46]⟩ : ByteArray).size = o1.size + 1) := by show _ = _; rw [ByteArray.size_append]; rfl
      have ho2 : (o1 ++ ⟨#[46]⟩ : ByteArray).size ≤ 2000000000 := by have := HS1.out; omega
      generalize hoo : o1 ++ (⟨#[46]⟩ : ByteArray) = o2 at *
      go_loopw [11, 12, 15] (fun vo vn vk wr => ∃ k : Nat, k ≤ ev.size ∧ vk = .int .i64 k ∧ vn = .int .i64 n1 ∧ vo = .string o2 ∧ Hid (∀ i, i < k → colB ev (byte es j) i = false) ∧ Fr (fun _ => False) w2 wr) (fun _ _ vk _ => ev.size - (intOf vk).toNat)
      case atStart => exact ⟨0, Nat.zero_le _, rfl, rfl, rfl, fun i hi => (by omega), Fr.refl _ _⟩
      case round =>
       obtain ⟨k, hk, rfl, rfl, rfl, HJ, hf3⟩ := hrel
       have hT3 := Blk.fr hT2 hf3 (fun h => h)
       have hV3 := hV2.fr hf3 (fun _ _ h => h)
       have hfr3 := hfr2.thenr hf3 (fun _ _ h => h)
       have hrow3 := row_fr hrow2 hf3 (fun _ _ h => h)
       have t0 : wr.cell? ⟨tb, 0, none⟩ = some (.string ev) := by rw [Blk.cell hT3]; rfl
       by_cases hkl : (k : Int) < ev.size
       ·have hkl' : k < ev.size := by omega
        have HE2 : Hid (byte ev k = ev[k]) := byte_in ev k hkl'
        by_cases he : byte ev k = byte es j
        ·have hcol : colP ev (byte es j) = some k := firstB_some (colB ev (byte es j)) k (by simp [colB, he]) HJ.out _ hkl'
         have HR2 : Hid (runS (th.map RwH.q) ev bg es (j + 1) = (o2 ++ (cellOf (th.map RwH.q) n1 k).acts, (cellOf (th.map RwH.q) n1 k).dst)) := by show _ = _; rw [HR.out, hcol]
         have he1 : ((ev[k].toNat : Int) == es[j].toNat) = true := by rw [beq_iff_eq, ← HE2.out, ← HX.out, he]
         obtain ⟨hce, hcd, hca⟩ := HOK.out.cell (n := n1) (k := k) (by rw [List.length_map]; exact hnb) hkl'
         obtain ⟨ge, ce, hcv, -⟩ := row_form hrow3 (by omega)
         injection hcv with v1 v2 v3
         subst v1
         subst v3
         clear v2
         have e0 := (row_cell hrow3 (k * 2 + 0) _ (by rw [flat_get clD 2 clD_len _ k 0 _ hce (by omega)]; rfl)).1
         have e1 := (row_cell hrow3 (k * 2 + 1) _ (by rw [flat_get clD 2 clD_len _ k 1 _ hce (by omega)]; rfl)).1
         rw [Nat.add_zero] at e0
         have hca' : (cellOf (th.map RwH.q) n1 k).acts.size ≤ 600000 := by omega
         generalize cellOf (th.map RwH.q) n1 k = cx at *
         clear hcol he hce HR
         go_wp2_with fail
         go_big_quiet (fail)
         go_wp2_with fail
         go_roundw
         case rel => exact ⟨j + 1, by omega, by go_num, by rw [HR2.out], by rw [HR2.out], hfr3.drewNr _, Blk.drewN hT3 _, hV3.fr (Fr.drewN (fun _ => False) _ _) (fun _ _ h => h)⟩
         case measure => simp [intOf]; omega
        ·have HC : Hid (colB ev (byte es j) k = false) := by show _ = _; simp [colB, he]
         have he1 : ((ev[k].toNat : Int) == es[j].toNat) = false := by
          rw [beq_eq_false_iff_ne]; intro h; exact he (by rw [HE2.out, HX.out]; exact UInt8.toNat_inj.1 (by omega))
         clear he
         go_wp2_with fail
         go_big_quiet (fail)
         go_wp2_with fail
         go_roundw
         case rel => exact ⟨k + 1, by omega, by go_num, rfl, rfl, below_step HJ.out HC.out, hf3.drewNr _⟩
         case measure => simp [intOf]; omega
       ·have hcol : colP ev (byte es j) = none := firstB_none (colB ev (byte es j)) _ (fun i hi => HJ.out i (by omega))
        have HR2 : Hid (runS (th.map RwH.q) ev bg es (j + 1) = (o2, n1)) := by show _ = _; rw [HR.out, hcol]
        have hkd : decide (k < ev.size) = false := by simp; omega
        clear hcol HR
        go_wp2_with fail
        go_roundw
        case rel => exact ⟨j + 1, by omega, by go_num, by rw [HR2.out], by rw [HR2.out], hfr3, hT3, hV3⟩
        case measure => simp [intOf]; omega
     ·have hje : j = es.size := by omega
      subst hje
      have HR : Hid (runX s es = ((runS (th.map RwH.q) ev bg es es.size).1, (runS (th.map RwH.q) ev bg es es.size).2, 0, 0)) := HE.out
      clear HE
      generalize hrr : runS (th.map RwH.q) ev bg es es.size = rr at *
      go_wp2_with fail
      refine bodyPost_ret (v := .tuple #[.string rr.1, .int .i64 rr.2, .int .i64 0, .int .i64 0]) (by simp [results, Tryz.results10, go_sem]) rfl ⟨by rw [HR.out], hfr⟩
   ·have hl0 : ¬ (ldE s).1 = 0 := by rw [load_eq]; exact h0
    have HE : Hid (runX s es = (⟨#[]⟩, 0, (rdT s).1, (rdT s).2)) := by
     show _ = _; rw [runX, if_neg (by omega), if_pos hl0, load_eq]
    have hne : ((rdT s).1 != 0) = true := by rw [bne_iff_ne]; exact h0
    clear hyes h0 hl0
    go_wp2_with fail
    refine bodyPost_ret (v := .tuple #[.string ⟨#[]⟩, .int .i64 0, .int .i64 (rdT s).1, .int .i64 (rdT s).2]) (by simp [results, Tryz.results10, go_sem]) rfl ⟨by rw [HE.out]; rfl, by (repeat (first | exact Fr.refl _ _ | assumption | refine Fr.drewNr ?_ _ | refine Fr.drewr ?_ | refine Fr.allocr ?_ _ | refine Fr.setCellr ?_ _ _ (by first | exact Or.inl rfl | (right; simp; done) | (right; simp; omega))))⟩
end Go.Proofs.YtmolmbeeoecnfaaGreatDoor
