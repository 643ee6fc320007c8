/- Own work: CoU, CoW8. -/
import Derived.Test.YtmolmbeeoecnfabDoorQ41
import Derived.Test.YtmolmbeeoecnfabDoorQ42
import Derived.Test.YtmolmbeeoecnfabDoorQ30
/- Own work: plain: what the compiled table does is what the chart does. -/
namespace Go.Proofs.YtmolmbeeoecnfabDoor
open Go.RowKit Go.BigFrame
set_option linter.unusedVariables false
set_option linter.unusedSimpArgs false

/-- The same, but that o was put out ahead. -/
def Ob (o : List UInt8) (p q : Py) : Prop := p.act = q.act ∧ p.mm = q.mm ∧ p.out = o ++ q.out
theorem Ob.app {o : List UInt8} {p q : Py} (h : Ob o p q) (a : List UInt8) {x y : List Bool} (hxy : x = y) : Ob o { p with act := x, out := p.out ++ a } { q with act := y, out := q.out ++ a } :=
  ⟨hxy, h.2.1, by show p.out ++ a = o ++ (q.out ++ a); rw [h.2.2]; simp⟩
theorem itF_ob (o : List UInt8) (g : Nat → Py → Py) (hg : ∀ i p q, Ob o p q → Ob o (g i p) (g i q)) : ∀ (n i : Nat) (p q : Py), Ob o p q → Ob o (itF g n i p) (itF g n i q)
  | 0, i, p, q, h => h
  | n + 1, i, p, q, h => itF_ob o g hg n (i + 1) _ _ (hg i p q h)
theorem enF_ob (o : List UInt8) (st : List StP) : ∀ (f s : Nat) (a : Am) (p q : Py), Ob o p q → Ob o (enF st f s a p) (enF st f s a q)
  | 0, s, a, p, q, h => h
  | f + 1, s, a, p, q, h => by
    cases hx : st[s]? with
    | none => simp only [enF, hx]; exact h
    | some x =>
      have h1 : Ob o { p with act := p.act.set s true, out := p.out ++ bls x.enter } { q with act := q.act.set s true, out := q.out ++ bls x.enter } := h.app _ (by rw [h.1])
      by_cases h2 : x.kind = 2
      · rw [enF_and hx h2, enF_and hx h2]
        refine itF_ob o _ ?_ _ _ _ _ h1
        intro i p' q' hpq
        split
        · exact enF_ob o st f i a p' q' hpq
        · exact hpq
      · by_cases h3 : x.kind = 1
        · rw [enF_or hx h3, enF_or hx h3, h.2.1]
          exact enF_ob o st f _ _ _ _ ⟨h1.1, rfl, h1.2.2⟩
        · rw [enF_leaf hx h2 h3, enF_leaf hx h2 h3]
          exact h1
theorem lvF_ob (o : List UInt8) (st : List StP) (left : List Bool) : ∀ (k : Nat) (p q : Py), Ob o p q → Ob o (lvF st left k p) (lvF st left k q)
  | 0, p, q, h => h
  | k + 1, p, q, h => by
    rw [lvF, lvF]
    split
    · exact lvF_ob o st left k _ _ (h.app _ (by rw [h.1]))
    · exact lvF_ob o st left k p q h
theorem rmF_ob (o : List UInt8) (st : List StP) (left : List Bool) : ∀ (k : Nat) (p q : Py), Ob o p q → Ob o (rmF st left k p) (rmF st left k q) := by
  intro k p q h
  have h1 := rmF_eqv st left k p q ⟨h.1, h.2.1⟩
  exact ⟨h1.1, h1.2, by rw [rmF_out, rmF_out]; exact h.2.2⟩
theorem tkF_ob (o : List UInt8) (st : List StP) (t : TrQ) (p q : Py) (h : Ob o p q) : Ob o (tkF st t p) (tkF st t q) := by
  unfold tkF
  rw [h.1]
  have h1 := lvF_ob o st (lefB st q.act t) st.length _ _ (rmF_ob o st (lefB st q.act t) st.length _ _ h)
  exact enF_ob o st 26 _ _ _ _ (h1.app _ h1.1)
theorem fold_ob (o : List UInt8) (st : List StP) (th : List TrH) : ∀ (ns : List Nat) (p q : Py), Ob o p q → Ob o (ns.foldl (tk1 st th) p) (ns.foldl (tk1 st th) q)
  | [], p, q, h => h
  | n :: ns, p, q, h => by
    rw [List.foldl_cons, List.foldl_cons]
    refine fold_ob o st th ns _ _ ?_
    unfold tk1; split
    · exact tkF_ob o st _ p q h
    · exact h
/-- One step, of the status alone. -/
theorem evStep_sp (st : List StP) (th : List TrH) (p : Py) (ev : UInt8) : sxP (evStep st th p ev) = sxP (spS st th ev (sxP p)) ∧ (evStep st th p ev).out = (p.out ++ [46]) ++ (spS st th ev (sxP p)).out := by
  have h : Ob (p.out ++ [46]) { p with out := p.out ++ [46] } ⟨p.act, p.mm, []⟩ := ⟨rfl, rfl, by simp⟩
  have h1 := fold_ob _ st th (tkn st th p.act ev) _ _ h
  exact ⟨Prod.ext h1.1 h1.2.1, h1.2.2⟩
/-! The events. -/
theorem evP_mem (th : List TrH) (c : UInt8) (h1 : 97 ≤ c.toNat) (hc : hasE th c = true) : ∀ k, c.toNat < 97 + k → c ∈ evP th k
  | 0, h => by omega
  | k + 1, h => by
    rw [evP]
    by_cases hk : c.toNat < 97 + k
    · have ih := evP_mem th c h1 hc k hk
      split
      · simp [ih]
      · exact ih
    · have e : UInt8.ofNat (97 + k) = c := by
        have : 97 + k = c.toNat := by omega
        rw [this]; exact UInt8.ofNat_toNat
      rw [e, if_pos hc]
      simp
theorem noEv_col {th : List TrH} (he : ∀ t ∈ th, isE t.q.event = true) {c : UInt8} (h : colP (evS th) c = none) : NoEv th c := by
  intro t ht e
  have hE := he t ht
  rw [e] at hE
  have hb : 97 ≤ c.toNat ∧ c.toNat ≤ 122 := by
    simp only [isE, Bool.and_eq_true, decide_eq_true_eq, UInt8.le_iff_toNat_le] at hE
    exact hE
  have hh : hasE th c = true := by
    obtain ⟨j, hj⟩ := List.mem_iff_getElem?.1 ht
    unfold hasE
    rcases firstB_spec (evB th c) th.length with ⟨-, h2⟩ | ⟨m, h1, -⟩
    · have h3 := h2 j (List.getElem?_eq_some_iff.1 hj).1
      unfold evB at h3
      rw [hj] at h3
      simp [e] at h3
    · rw [h1]; rfl
  have hm := evP_mem th c hb.1 hh 26 (by omega)
  obtain ⟨k, hk⟩ := List.mem_iff_getElem?.1 hm
  have hkl := (List.getElem?_eq_some_iff.1 hk).1
  unfold colP at h
  have hsz : (evS th).size = (evP th 26).length := by show (evP th 26).toArray.size = _; simp
  rcases firstB_spec (colB (evS th) c) (evS th).size with ⟨-, h2⟩ | ⟨m, h1, -⟩
  · have h3 := h2 k (by omega)
    unfold colB at h3
    rw [byte_in _ _ (by omega)] at h3
    have h4 : (evS th)[k]'(by omega) = c := by
      have h9 := List.getElem?_eq_some_iff.1 hk
      rw [← h9.2]; rfl
    rw [h4] at h3
    simp at h3
  · rw [h1] at h; cases h
/-! The rows. -/
theorem txC_cells {C D : List Cl} (hl : D.length = C.length) (hC : ∀ c ∈ C, ClG c) (hD : ∀ c ∈ D, ClG c) (h : txC D = txC C) : D = C := by
  have e : txR true D = txR true C := by rw [← bls_txC, ← bls_txC, h]
  have hw : At ⟨(txR true C ++ [59]).toArray⟩ 0 (txR true C ++ [59]) := At.whole _
  have h59 : byte ⟨(txR true C ++ [59]).toArray⟩ (0 + (txR true C).length) = 59 := hw.right.head
  have c1 := cells_at C 0 [] hC hw.left h59
  have c2 := cells_at D 0 [] hD (by rw [show txR ([] : List Cl).isEmpty D = txR true C from e]; exact hw.left) (by rw [show txR ([] : List Cl).isEmpty D = txR true C from e]; exact h59)
  rw [hl, c1] at c2
  simp only [List.nil_append, Prod.mk.injEq] at c2
  exact c2.2.2.symm
section
variable {st : List StP} {th : List TrH} {lim : Int} {l : List Sx} {Cs : List (List Cl)} (hT : CoT st th lim l Cs) (hd : DdS st) (hta : ∀ t ∈ th, DgA t.q.acts) (hl : lim ≤ 99)
include hT hd hta hl
theorem CoT.cells_of {n : Nat} {C : List Cl} (p : Nat) (hC : Cs[n]? = some C) : cellsOf (rtR p (rts Cs)) n = C := by
  have hn := (List.getElem?_eq_some_iff.1 hC).1
  obtain ⟨q, hq⟩ := rtR_get (rts Cs) p n _ (rts_get hn)
  unfold cellsOf
  rw [hq]
  simp only
  by_cases hf : fiR (Cs.map txC) (txC C) < n
  · have e : rtOf Cs n = .same (fiR (Cs.map txC) (txC C)) := by unfold rtOf; rw [hC]; simp only; rw [if_pos hf]
    obtain ⟨D, d1, d2, d3⟩ := rtOf_fi hC
    obtain ⟨q2, hq2⟩ := rtR_get (rts Cs) p _ _ (rts_get (List.getElem?_eq_some_iff.1 d1).1)
    rw [d2] at hq2
    rw [e]
    have e3 : (Rtx.row q (.same (fiR (Cs.map txC) (txC C)))).same = (fiR (Cs.map txC) (txC C) : Int) := rfl
    rw [e3, if_pos (by omega), Int.toNat_natCast, hq2]
    show D = C
    obtain ⟨g1, g2⟩ := hT.clg hd hta hl hC
    obtain ⟨g3, g4⟩ := hT.clg hd hta hl d1
    exact txC_cells (by rw [g1, g3]) g2 g4 d3
  · have e : rtOf Cs n = .own C := by unfold rtOf; rw [hC]; simp only; rw [if_neg hf]
    rw [e]
    have e3 : (Rtx.row q (.own C)).same = -1 := rfl
    rw [e3, if_neg (by omega)]
    rfl
/-- The table goes along with the chart. -/
theorem CoT.sim (he : ∀ t ∈ th, isE t.q.event = true) (p : Nat) (es : ByteArray) : ∀ j, ∃ n, runS (rtR p (rts Cs)) (evS th) ⟨(begP st).out.toArray⟩ es j = (⟨(plK st th es j).out.toArray⟩, n) ∧ l[n]? = some (sxP (plK st th es j))
  | 0 => ⟨0, rfl, hT.st0⟩
  | j + 1 => by
    obtain ⟨n, h1, h2⟩ := CoT.sim he p es j
    rw [runS, h1]
    have hpl : plK st th es (j + 1) = evStep st th (plK st th es j) (byte es j) := rfl
    cases hc : colP (evS th) (byte es j) with
    | none =>
      have hno := noEv_col he hc
      rw [hpl, evStep_no hno]
      refine ⟨n, ?_, h2⟩
      simp only [Prod.mk.injEq, and_true]
      apply ByteArray.ext
      show ((⟨(plK st th es j).out.toArray⟩ : ByteArray) ++ ⟨#[46]⟩).data = _
      rw [ByteArray.data_append]
      simp
    | some k =>
      obtain ⟨hk, hb⟩ := colP_lt hc
      have hn : n < Cs.length := by rw [hT.len]; exact (List.getElem?_eq_some_iff.1 h2).1
      obtain ⟨C, hC⟩ : ∃ C, Cs[n]? = some C := ⟨_, List.getElem?_eq_getElem hn⟩
      obtain ⟨x, g1, g2, g3⟩ := hT.ci.ce n C hC
      rw [h2] at g1
      obtain rfl : sxP (plK st th es j) = x := by injection g1
      have hkC : k < C.length := by rw [g2]; exact hk
      obtain ⟨c, hcc⟩ : ∃ c, C[k]? = some c := ⟨_, List.getElem?_eq_getElem hkC⟩
      have hco : cellOf (rtR p (rts Cs)) n k = c := by
        unfold cellOf
        rw [hT.cells_of hd hta hl p hC, hcc]; rfl
      obtain ⟨q1, q2⟩ := g3 k c hcc
      rw [hb] at q1 q2
      obtain ⟨r1, r2⟩ := evStep_sp st th (plK st th es j) (byte es j)
      simp only
      rw [hco, hpl, r2]
      refine ⟨c.dst, ?_, ?_⟩
      · simp only [Prod.mk.injEq, and_true]
        apply ByteArray.ext
        rw [ByteArray.data_append, ByteArray.data_append, q2]
        simp
      · rw [q1, r1]
end
end Go.Proofs.YtmolmbeeoecnfabDoor

/- Own work: the walk of the program's Compile. -/
namespace Go.Proofs.YtmolmbeeoecnfabDoor
open Go.RowKit Go.BigFrame
set_option linter.unusedVariables false
set_option linter.unusedSimpArgs false

/-! What is compiled does not hang on where the conditions lie. -/
theorem evB_congr {th th' : List TrH} (h : th.map TrH.q = th'.map TrH.q) (ev : UInt8) : evB th ev = evB th' ev := by
  funext j
  have h1 : (th.map TrH.q)[j]? = (th'.map TrH.q)[j]? := by rw [h]
  rw [List.getElem?_map, List.getElem?_map] at h1
  unfold evB
  cases hx : th[j]? with
  | none => rw [hx] at h1; cases hy : th'[j]? with
    | none => rfl
    | some y => rw [hy] at h1; cases h1
  | some x => rw [hx] at h1; cases hy : th'[j]? with
    | none => rw [hy] at h1; cases h1
    | some y =>
      rw [hy] at h1
      simp only [Option.map_some, Option.some.injEq] at h1
      simp only [h1]
theorem hasE_congr {th th' : List TrH} (h : th.map TrH.q = th'.map TrH.q) (ev : UInt8) : hasE th ev = hasE th' ev := by
  have hl : th.length = th'.length := by have := congrArg List.length h; simpa using this
  unfold hasE
  rw [evB_congr h, hl]
theorem evP_congr {th th' : List TrH} (h : th.map TrH.q = th'.map TrH.q) : ∀ k, evP th k = evP th' k
  | 0 => rfl
  | k + 1 => by rw [evP, evP, hasE_congr h, evP_congr h k]
theorem ceK_congr {th th' : List TrH} (h : th.map TrH.q = th'.map TrH.q) (st : List StP) (es : ByteArray) (x : Sx) (l : List Sx) : ∀ k, ceK st th es x l k = ceK st th' es x l k
  | 0 => rfl
  | k + 1 => by
    have e : spS st th (byte es k) x = spS st th' (byte es k) x := spF_congr h st _ _
    rw [ceK, ceK, ceK_congr h st es x l k, e]
theorem coF_congr {th th' : List TrH} (h : th.map TrH.q = th'.map TrH.q) (st : List StP) (es : ByteArray) (lim : Int) : ∀ (f : Nat) (l : List Sx) (rows : List ByteArray), coF st th es lim f l rows = coF st th' es lim f l rows
  | 0, _, _ => rfl
  | f + 1, l, rows => by
    rw [coF, coF]
    split
    · rfl
    · split
      · rfl
      · rw [ceK_congr h, coF_congr h st es lim f]
theorem coR_congr {th th' : List TrH} (h : th.map TrH.q = th'.map TrH.q) (st : List StP) (lim : Int) : coR st th lim = coR st th' lim := by
  have e : evS th = evS th' := by unfold evS; rw [evP_congr h]
  unfold coR
  rw [e, coF_congr h]

/-- What Compile answers. -/
def limOf (rows : Int) : Int := if 99 < rows then 99 else rows
def cpS (s : ByteArray) (rows : Int) : Option ByteArray := coR (unSt s) (th0 s) (limOf rows)
def cpV (s : ByteArray) (rows : Int) : Value :=
  if (unE s).1 = 0 then (match cpS s rows with | some t => .tuple #[.string t, .int .i64 0, .int .i64 0] | none => .tuple #[.string ⟨#[]⟩, .int .i64 7, .int .i64 0])
  else .tuple #[.string ⟨#[]⟩, .int .i64 (unE s).1, .int .i64 (unE s).2]

set_option maxRecDepth 100000 in
set_option maxHeartbeats 1000000 in
theorem pcompile_any (H : Nat) (T : World → Prop) (hI : ItO H T) (w : World) (s : ByteArray) (rows : Int) (hm : s.size ≤ maxLen) (hT : T w) (hH : H ≤ w.heap.size) (hr : -9223372036854775808 ≤ rows ∧ rows ≤ 9223372036854775807) :
    Calls Tryd.prog 7 #[.string s, .int .i64 rows] w fun e w' => e = .returned (cpV s rows) ∧ Fr (fun _ => False) w w' := by
  have HI : Hid _ := hI
  have HT : Hid (T w) := hT
  have HH : Hid (H ≤ w.heap.size) := hH
  clear hI hT hH
  go_enter Tryd.func7, Tryd.ntmps7
  go_wp2_with fail
  refine (understand_any w s hm).mono ?_
  rintro e w1 ⟨a2, n2, k2, a3, n3, k3, rfl, hfr, hpl⟩
  by_cases hE : (unE s).1 = 0
  · obtain ⟨pb, th, hpv, hth, hown⟩ := hpl hE
    have hP := plan_ok s hE
    rw [← hth] at hP
    have hr1 := hpv.toR [] 0
    have hb1 := Blk.new w1 #[.slice a2 n2 k2, .slice a3 n3 k3] 48
    have hfa : Fr (fun _ => False) w1 (w1.alloc (.cells #[.slice a2 n2 k2, .slice a3 n3 k3] 48)) := by (repeat (first | exact Fr.refl _ _ | assumption | refine Fr.drewNr ?_ _ | refine Fr.drewr ?_ | refine Fr.allocr ?_ _ | refine Fr.setCellr ?_ _ _ (by first | exact Or.inl rfl | (right; simp; done) | (right; simp; omega))))
    have HCP : Hid (∀ lim : Int, lim ≤ 99 → Calls Tryd.prog 16 #[.agg #[.slice a2 n2 k2, .slice a3 n3 k3], .int .i64 lim] (w1.alloc (.cells #[.slice a2 n2 k2, .slice a3 n3 k3] 48)) fun e w' => e = .returned (coV (coR (unSt s) (th0 s) lim)) ∧ Fr (fun _ => False) (w1.alloc (.cells #[.slice a2 n2 k2, .slice a3 n3 k3] 48)) w') := fun lim hlim => by
      have h := compile_any H T HI.out (w1.alloc (.cells #[.slice a2 n2 k2, .slice a3 n3 k3] 48)) (unSt s) a2 a3 n2 k2 n3 k3 th (hr1.fr0 hfa) (fun k hk => by
        have h2 : k < w1.heap.size := by
          rcases hk with h | h | ⟨t, ht, h⟩
          · exact (World.ownsRow.lt hr1.r2 k h).2
          · exact (World.ownsRow.lt hr1.r3 k h).2
          · exact (World.ownsRow.lt (hr1.rc t ht) k h).2
        have := hfa.size
        omega) (HI.out.keep w _ _ HT.out (hfr.thenr hfa (fun _ _ h => h)) (fun _ h => h.elim)) (by have := HH.out; have := hfr.size; have := hfa.size; omega) hP (un_lg hE ⟨#[]⟩).1 lim hlim
      rw [coR_congr (hth.trans (th0_q s).symm)] at h
      exact h
    have HV : Hid (cpV s rows = match cpS s rows with | some t => .tuple #[.string t, .int .i64 0, .int .i64 0] | none => .tuple #[.string ⟨#[]⟩, .int .i64 7, .int .i64 0]) := by show _ = _; rw [cpV, if_pos hE]
    have HF : Hid (Fr (fun _ => False) w (w1.alloc (.cells #[.slice a2 n2 k2, .slice a3 n3 k3] 48))) := hfr.thenr hfa (fun _ _ h => h)
    have hne : (((unE s).1 : Int) != 0) = false := by rw [hE]; rfl
    clear hE hpl hpv hth hown hP hr1 hfa hfr
    by_cases hd : (99 : Int) < rows
    · have HL : Hid (limOf rows = 99) := by show _ = _; rw [limOf, if_pos hd]
      have HC : Hid _ := HCP.out 99 (Int.le_refl _)
      have HS : Hid (cpS s rows = coR (unSt s) (th0 s) 99) := by show _ = _; rw [cpS, HL.out]
      clear HCP HL
      generalize hcr : coR (unSt s) (th0 s) 99 = cr at *
      have HCR : Hid (coR (unSt s) (th0 s) 99 = cr) := hcr
      clear hcr
      cases cr with
      | none =>
        have HV2 : Hid (cpV s rows = .tuple #[.string ⟨#[]⟩, .int .i64 7, .int .i64 0]) := by show _ = _; rw [HV.out, HS.out]
        have HC2 : Hid _ := HC.out
        unfold coV at HC2
        go_wp2_with fail
        refine Calls.mono HC2.out ?_
        rintro e w3 ⟨rfl, hf3⟩
        have hf4 := HF.out.thenr hf3 (fun _ _ h => h)
        go_wp2_with fail
        exact bodyPost_ret (v := .tuple #[.string ⟨#[]⟩, .int .i64 7, .int .i64 0]) (by simp [results, Tryd.results7, go_sem]) rfl ⟨by rw [HV2.out], hf4⟩
      | some t =>
        have HV2 : Hid (cpV s rows = .tuple #[.string t, .int .i64 0, .int .i64 0]) := by show _ = _; rw [HV.out, HS.out]
        have HC2 : Hid _ := HC.out
        unfold coV at HC2
        go_wp2_with fail
        refine Calls.mono HC2.out ?_
        rintro e w3 ⟨rfl, hf3⟩
        have hf4 := HF.out.thenr hf3 (fun _ _ h => h)
        go_wp2_with fail
        exact bodyPost_ret (v := .tuple #[.string t, .int .i64 0, .int .i64 0]) (by simp [results, Tryd.results7, go_sem]) rfl ⟨by rw [HV2.out], hf4⟩
    · have hd' : decide ((99 : Int) < rows) = false := by simpa using hd
      have HL : Hid (limOf rows = rows) := by show _ = _; rw [limOf, if_neg hd]
      have HC : Hid _ := HCP.out rows (by omega)
      have HS : Hid (cpS s rows = coR (unSt s) (th0 s) rows) := by show _ = _; rw [cpS, HL.out]
      clear HCP HL hd
      generalize hcr : coR (unSt s) (th0 s) rows = cr at *
      have HCR : Hid (coR (unSt s) (th0 s) rows = cr) := hcr
      clear hcr
      cases cr with
      | none =>
        have HV2 : Hid (cpV s rows = .tuple #[.string ⟨#[]⟩, .int .i64 7, .int .i64 0]) := by show _ = _; rw [HV.out, HS.out]
        have HC2 : Hid _ := HC.out
        unfold coV at HC2
        go_wp2_with fail
        refine Calls.mono HC2.out ?_
        rintro e w3 ⟨rfl, hf3⟩
        have hf4 := HF.out.thenr hf3 (fun _ _ h => h)
        go_wp2_with fail
        exact bodyPost_ret (v := .tuple #[.string ⟨#[]⟩, .int .i64 7, .int .i64 0]) (by simp [results, Tryd.results7, go_sem]) rfl ⟨by rw [HV2.out], hf4⟩
      | some t =>
        have HV2 : Hid (cpV s rows = .tuple #[.string t, .int .i64 0, .int .i64 0]) := by show _ = _; rw [HV.out, HS.out]
        have HC2 : Hid _ := HC.out
        unfold coV at HC2
        go_wp2_with fail
        refine Calls.mono HC2.out ?_
        rintro e w3 ⟨rfl, hf3⟩
        have hf4 := HF.out.thenr hf3 (fun _ _ h => h)
        go_wp2_with fail
        exact bodyPost_ret (v := .tuple #[.string t, .int .i64 0, .int .i64 0]) (by simp [results, Tryd.results7, go_sem]) rfl ⟨by rw [HV2.out], hf4⟩
  · have hne : (((unE s).1 : Int) != 0) = true := by rw [bne_iff_ne]; omega
    have HV : Hid (cpV s rows = .tuple #[.string ⟨#[]⟩, .int .i64 (unE s).1, .int .i64 (unE s).2]) := by show _ = _; rw [cpV, if_neg hE]
    have HF : Hid (Fr (fun _ => False) w w1) := hfr
    clear hE hfr hpl
    go_wp2_with fail
    exact bodyPost_ret (v := .tuple #[.string ⟨#[]⟩, .int .i64 (unE s).1, .int .i64 (unE s).2]) (by simp [results, Tryd.results7, go_sem]) rfl ⟨by rw [HV.out], HF.out.allocr _⟩
end Go.Proofs.YtmolmbeeoecnfabDoor
