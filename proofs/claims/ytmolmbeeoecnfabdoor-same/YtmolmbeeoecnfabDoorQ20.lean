/- Own work: PyZ6. -/
import Derived.Test.YtmolmbeeoecnfabDoorQ19
import Derived.Laws.Tables
/- Own work: the player's first status in memory: laws for a great record. -/
namespace Go.Proofs.YtmolmbeeoecnfabDoor
open Go.RowKit Go.BigFrame
set_option linter.unusedVariables false
set_option linter.unusedSimpArgs false

def py0 : Py := ⟨noSet, List.replicate 26 noSet, []⟩
theorem py0_ok : PyOk py0 := ⟨rfl, rfl, by intro m hm; simp only [py0, List.mem_replicate] at hm; rw [hm.2]; rfl⟩
def nilV : Value := .slice none 0 0
def pyA (v2 v3 : Value) : Array Value := (pyC ⟨v2, v3, [], [], 67⟩ py0 nilV).toArray
set_option maxRecDepth 1000000 in
theorem built_py (v2 v3 : Value) : Tryd.prog.built 67 [(0, .agg #[v2, v3])] = some (pyA v2 v3) := by kernel_rfl
set_option maxRecDepth 1000000 in
theorem zero_py : (Tryd.prog.info? 67).bind (·.zero) = some (.agg (pyA nilV nilV)) := by kernel_rfl
theorem size_py : (Tryd.prog.info? 67).map (·.size) = some 705 := by kernel_rfl
theorem size_now : (Tryd.prog.info? 64).map (·.size) = some 702 := by kernel_rfl
theorem pyA_size (v2 v3 : Value) : (pyA v2 v3).size = 705 := by rw [pyA, List.size_toArray, pyC_len py0_ok]; rfl
theorem wpList_bldP {ops : Array Oper} {rest : List Oper} {o : Oper} {a : Act} {w : World} {Q : Exit → Act → World → Prop} (hg : o.guard = none) (x : Operand) (ho : o.op = .build 67 #[(0, x)]) (v2 v3 : Value) (hx : a.eval x = .agg #[v2, v3])
    (h : wpList Tryd.prog ops Q rest (a.put o.dst (.agg (pyA v2 v3))) w) : wpList Tryd.prog ops Q (o :: rest) a w := by
  have e : (#[((0 : Nat), x)].map fun (i, x) => (i, a.eval x)).toList = [(0, .agg #[v2, v3])] := by simp [hx]
  refine wpList_build (P := Tryd.prog) hg _ _ ho (by rw [e, built_py]; rfl) ?_
  rw [e, built_py]
  exact h
theorem wpList_alcP {ops : Array Oper} {rest : List Oper} {o : Oper} {a : Act} {w : World} {Q : Exit → Act → World → Prop} (hg : o.guard = none) (ho : o.op = .alloc 67)
    (h : wpList Tryd.prog ops Q rest (a.put o.dst (.pointer (some ⟨w.heap.size, 0, none⟩))) (w.alloc (.cells (pyA nilV nilV) 67))) : wpList Tryd.prog ops Q (o :: rest) a w := by
  refine wpList_plain hg fun K hK => ?_
  obtain ⟨i, hi, hz⟩ : ∃ i, Tryd.prog.info? 67 = some i ∧ i.zero = some (.agg (pyA nilV nilV)) := by
    have h1 := zero_py
    cases h2 : Tryd.prog.info? 67 with
    | none => rw [h2] at h1; cases h1
    | some i => rw [h2] at h1; exact ⟨i, rfl, h1⟩
  generalize pyA nilV nilV = Z at *
  unfold Oper.wp execOp
  have hr : (Instr.alloc 67 true (.tuple #[])).run Tryd.prog w = .ok (.pointer (some ⟨w.heap.size, 0, none⟩)) (w.alloc (.cells Z 67)) := by
    simp [Instr.alloc, zeroValue, typeInfo, hi, hz, newVar, newRow, Value.cells]
  simp only [ho, Sem.run_bind, Sem.run_pure, hr, Result.andThen_ok]
  exact hK _ _ h
theorem wpList_stoP {ops : Array Oper} {rest : List Oper} {op : Oper} {a : Act} {w : World} {Q : Exit → Act → World → Prop} (hgd : op.guard = none) (x y : Operand) (ho : op.op = .store 67 x y)
    (w0 : World) (b : Nat) (v2 v3 : Value) (hx : a.eval x = .pointer (some ⟨b, 0, none⟩)) (hy : a.eval y = .agg (pyA v2 v3)) (hw : w = w0.alloc (.cells (pyA nilV nilV) 67)) (hb : b = w0.heap.size) (h1 : (pyA v2 v3).all (·.oneCell') = true)
    (h : wpList Tryd.prog ops Q rest (a.put op.dst undef) (w0.alloc (.cells (pyA v2 v3) 67))) : wpList Tryd.prog ops Q (op :: rest) a w := by
  refine wpList_plain hgd fun K hK => ?_
  unfold Oper.wp execOp
  have hrun := run_storeVar_new (P := Tryd.prog) w0 67 (pyA nilV nilV) (pyA v2 v3) (by rw [size_py, pyA_size]) (by rw [pyA_size, pyA_size]) h1
  rw [← hb, ← hw] at hrun
  simp only [ho, hx, hy, Instr.storeAt, Instr.sureAddr, Sem.run_bind, Sem.run_pure, Result.andThen_ok, hrun]
  exact hK _ _ h
theorem one_py {v2 v3 : Value} (h2 : v2.oneCell' = true) (h3 : v3.oneCell' = true) : (pyA v2 v3).all (·.oneCell') = true := by
  rw [Array.all_eq_true_iff_forall_mem]
  intro v hv
  simp only [pyA, pyC, List.mem_toArray, List.mem_append, List.mem_cons, List.not_mem_nil, or_false] at hv
  rcases hv with (rfl | rfl) | hv | hv | rfl
  · exact h2
  · exact h3
  · simp only [bV, List.mem_map] at hv; obtain ⟨_, _, rfl⟩ := hv; rfl
  · simp only [mmC, List.mem_flatMap, bV, List.mem_map] at hv; obtain ⟨_, _, _, _, rfl⟩ := hv; rfl
  · rfl
theorem PyV.rnow {w : World} {b : Nat} {st : List StP} {ws : Wp} {p : Py} {vo : Value} (h : PyV w b st ws p vo) : w.rangeAt b 2 (nowC p.act p.mm) := fun j v hv => by
  have hj := (List.getElem?_eq_some_iff.1 hv).1
  rw [Blk.cell h.blk, ← hv, List.getElem?_toArray, pyC, List.getElem?_append_right (by simp), nowC, ← List.append_assoc, List.getElem?_append_left (by simpa [nowC] using hj)]
  congr 1
  simp
end Go.Proofs.YtmolmbeeoecnfabDoor

/- Own work: walk of the program's Play. -/
namespace Go.Proofs.YtmolmbeeoecnfabDoor
open Go.RowKit Go.BigFrame
set_option linter.unusedVariables false
set_option linter.unusedSimpArgs false

/-- What is said of the plan of a chart that is right. -/
structure PlOk (st : List StP) (tr : List TrQ) : Prop where
  wf : Wf st
  sz : SzOk st
  rm : RmOk st
  s0 : 0 < st.length
  trs : ∀ t ∈ tr, TrOk st t ∧ CdOn t.conds ∧ t.conds.length ≤ 1000000 ∧ t.acts.size ≤ 160
  tl : tr.length ≤ 1000000
theorem PlOk.th {st : List StP} {th : List TrH} (h : PlOk st (th.map TrH.q)) : ThOk st th ∧ TaOk th ∧ th.length ≤ 1000000 := by
  refine ⟨fun t ht => ?_, fun t ht => ?_, by have := h.tl; simpa using this⟩
  · have h1 := h.trs t.q (List.mem_map_of_mem ht); exact ⟨h1.1, h1.2.1, h1.2.2.1⟩
  · exact (h.trs t.q (List.mem_map_of_mem ht)).2.2.2
def evStep (st : List StP) (th : List TrH) (p : Py) (ev : UInt8) : Py := spF st th ev { p with out := p.out ++ [46] }
/-- The player behind the first k events. -/
def plK (st : List StP) (th : List TrH) (es : ByteArray) : Nat → Py
  | 0 => enF st 26 0 Am.free py0
  | k + 1 => evStep st th (plK st th es k) (byte es k)

theorem wpList_appendP {P : Program} {w : World} {ops : Array Oper} {rest : List Oper} {o : Oper} {a : Act} {Q : Exit → Act → World → Prop} (hgd : o.guard = none) (s x : Operand) (t : TypeId)
    (ho : o.op = .call { callee := .builtin .append, args := #[s, x], argTypes := #[t, t] })
    (base : Nat) (e : TypeId) (he : ElemOk P t e 1 1) (v : Value) (n : Nat) (xs : List Value) (hs : a.eval s = v) (hown : w.ownsRow base e 1 v n xs)
    (ad : Addr) (m c : Nat) (news : List Value) (hx : a.eval x = .slice (some ad) m c) (hl : news.length = m) (hnews : ∀ j u, news[j]? = some u → w.cell? (ad.add j) = some u) (h1 : ∀ u ∈ news, u.oneCell' = true)
    (h63 : n + m ≤ 140737488355328) (hbase : base ≤ w.heap.size)
    (h : ∀ ra rc w', w'.ownsRow base e 1 (.slice ra (n + m) rc) (n + m) (xs ++ news) → w.grownBy w' v.ownBlock → (∀ k, k < w.heap.size → (Value.slice ra (n + m) rc).ownBlock = some k → v.ownBlock = some k) → wpList P ops Q rest (a.put o.dst (.slice ra (n + m) rc)) w') :
    wpList P ops Q (o :: rest) a w := by
  obtain ⟨ht, ⟨i, z, hi, hz, hsize, hby, hzs⟩, hsz⟩ := he
  refine wpList_append_own_at (P := P) w hgd s x t ho base e i z 1 1 ht hi hz hsize hby hzs hsz _ n xs hs hown ad m c news hx (by omega) hnews h1 (by unfold maxLen; omega) (by omega) hbase ?_
  intro v' w' h2 h3 h4 h5
  obtain ⟨ra, rc, rfl⟩ := row_lenB h2
  refine h ra rc w' h2 h3 ?_
  intro k hk ho'
  rcases h5 with h5 | h5
  · rw [← h5]; exact ho'
  · rw [h5] at ho'; injection ho' with ho'; omega
theorem PyV.grow {w w2 : World} {b : Nat} {st : List StP} {ws : Wp} {p : Py} {vo v' : Value} (o' : List UInt8) (hp : PyV w b st ws p vo) (hgrow : w.grownBy w2 vo.ownBlock) (hrow : w2.ownsRow (b + 1) 5 1 v' (p.out ++ o').length (byV (p.out ++ o'))) (hold : ∀ k, k < w.heap.size → v'.ownBlock = some k → vo.ownBlock = some k) :
    PyV (w2.setCell ⟨b, 704, none⟩ v') b st ws { p with out := p.out ++ o' } v' ∧ EvY b vo v' w (w2.setCell ⟨b, 704, none⟩ v') := by
  have hG2 : Fr (fun j => vo.ownBlock = some j) w w2 := Fr.grown (fun j => vo.ownBlock = some j) hgrow (fun _ e => e)
  have hb2 := Blk.fr hp.blk hG2 (fun e => by have := (hp.roB b e).1; omega)
  refine ⟨⟨?_, ?_, ?_, hp.np, ⟨hp.ok.la, hp.ok.lm, hp.ok.le⟩⟩, ⟨?_, ?_⟩⟩
  · rw [← pyC_setOut ws p vo _ (p.out ++ o') hp.ok]
    exact Blk.set hb2 704 _
  · exact (hp.pl.fr hG2 (fun k hk e => by have := hp.np k hk; have := (hp.roB k e).1; omega)).fr (Fr.setCell (· = b) _ ⟨b, 704, none⟩ _ rfl) (fun k hk e => by have := hp.np k hk; omega)
  · exact row_frB hrow (Fr.setCell (· = b) w2 ⟨b, 704, none⟩ v' rfl) (fun k hk e => by have := (World.ownsRow.lt hrow k hk).1; omega)
  · exact (hG2.mono (fun k _ e => Or.inr e)).setCellr _ _ (Or.inl (Or.inl rfl))
  · intro k hk ho
    rcases ho with ho | ho
    · exact Or.inl ho
    · exact Or.inr (hold k hk ho)

theorem conv_row {w : World} {B : Nat} {v : Value} {l : List UInt8} (h : w.ownsRow B 5 1 v l.length (byV l)) : Sem.run Tryd.prog (convert 65 9 v) w = .ok (.string ⟨l.toArray⟩) w := by
  have h0 := row_dn h
  rcases h.2 with ⟨rfl, hn⟩ | ⟨g, cap, cur, rfl, _⟩
  · have hl : l = [] := List.length_eq_zero_iff.1 hn
    subst hl
    rw [run_convert_bytes_string (P := Tryd.prog) w 65 9 5 none 0 0 Tryd.underlying65 Tryd.underlying5 Tryd.underlying9]
    first | rfl | simp [Conv.bytesToString]
  · exact run_convert_bytes_back (P := Tryd.prog) w 65 9 5 ⟨g, 0, none⟩ cap l Tryd.underlying65 Tryd.underlying5 Tryd.underlying9 (fun j hj => h0.cells (g := g) rfl j _ (by simp [byV, hj]))

set_option maxRecDepth 100000 in
set_option maxHeartbeats 2000000 in
theorem pplay_any (w : World) (s es : ByteArray) (hm : s.size ≤ maxLen) (hes : es.size ≤ 400) (hok : (unE s).1 = 0 → PlOk (unSt s) (unTr s)) :
    Calls Tryd.prog 12 #[.string s, .string es] w fun e w' => Fr (fun _ => False) w w' ∧ (((unE s).1 ≠ 0 ∧ e = .returned (.tuple #[.string ⟨#[]⟩, .string ⟨#[]⟩, .int .i64 (unE s).1, .int .i64 (unE s).2])) ∨
      ((unE s).1 = 0 ∧ ∃ th, th.map TrH.q = unTr s ∧ (plK (unSt s) th es es.size).out.length ≤ 70000000000000 ∧ e = .returned (.tuple #[.string ⟨(plK (unSt s) th es es.size).out.toArray⟩, .string ⟨(stT (unSt s) (plK (unSt s) th es es.size).act (plK (unSt s) th es es.size).mm (unSt s).length).toArray⟩, .int .i64 0, .int .i64 0]))) := by
  have HOK : Hid ((unE s).1 = 0 → PlOk (unSt s) (unTr s)) := hok
  clear hok
  have h400 : decide ((400 : Int) < es.size) = false := by simp; omega
  go_enter Tryd.func12, Tryd.ntmps12
  go_wp2_with fail
  refine (understand_any w s hm).mono ?_
  rintro e w1 ⟨a2, n2, k2, a3, n3, k3, rfl, hfr, hpl⟩
  by_cases hE : (unE s).1 = 0
  · obtain ⟨pb, th, hpv, hth, hown⟩ := hpl hE
    have hP := HOK.out hE
    have hr1 := (hpv.toR [] 67 : PlR w1 _ _)
    have eN : n2 = (unSt s).length := by obtain ⟨x, y, hh⟩ := row_len hpv.r2; injection hh
    have eM : n3 = th.length := by obtain ⟨x, y, hh⟩ := row_len hpv.r3; injection hh
    obtain ⟨st, hst⟩ : ∃ st, unSt s = st := ⟨_, rfl⟩
    have HST : Hid (unSt s = st) := hst
    rw [hst] at hpv hP hr1 eN
    rw [← hth] at hP
    have HTH : Hid (th.map TrH.q = unTr s) := hth
    obtain ⟨hTh, hTa, hTl⟩ := hP.th
    have HPK : Hid (PlOk st (th.map TrH.q)) := hP
    have HTHK : Hid (ThOk st th ∧ TaOk th ∧ th.length ≤ 1000000) := ⟨hTh, hTa, hTl⟩
    have hne : (((unE s).1 : Int) != 0) = false := by rw [hE]; rfl
    have HE : Hid ((unE s).1 = 0) := hE
    have HR1 : Hid (PlR w1 st ⟨.slice a2 n2 k2, .slice a3 n3 k3, th, [], 67⟩) := hr1
    have HNP : Hid (∀ k, OwnP ⟨.slice a2 n2 k2, .slice a3 n3 k3, th, [], 67⟩ k → k < w1.heap.size) := by
      rintro k (h | h | ⟨t, ht, h⟩)
      · exact (World.ownsRow.lt hr1.r2 k h).2
      · exact (World.ownsRow.lt hr1.r3 k h).2
      · exact (World.ownsRow.lt (hr1.rc t ht) k h).2
    have HF : Hid (Fr (fun _ => False) w w1) := hfr
    clear hE hst hth hP hTh hTa hTl hpv hr1 eN eM hfr hpl hown
    go_wp2_with (first | (refine wpList_bldP rfl _ rfl _ _ rfl ?_) | (refine wpList_alcP rfl rfl ?_) | (refine wpList_stoP rfl _ _ rfl _ _ _ _ rfl rfl rfl (by simp) (one_py rfl rfl) ?_))
    have hPV : PyV ((w1.alloc (.cells #[.slice a2 n2 k2, .slice a3 n3 k3] 48)).alloc (.cells (pyA (.slice a2 n2 k2) (.slice a3 n3 k3)) 67)) (w1.heap.size + 1) st ⟨.slice a2 n2 k2, .slice a3 n3 k3, th, [], 67⟩ py0 nilV :=
      { blk := Blk.new' _ _ _ _ (by simp)
        pl := HR1.out.fr (((Fr.refl (fun _ => False) _).allocr _).allocr _) (fun _ _ h => h)
        ro := ⟨rfl, .inl ⟨rfl, rfl⟩⟩
        np := fun k hk => by have := HNP.out k hk; omega
        ok := py0_ok }
    have hFW : Fr (fun _ => False) w ((w1.alloc (.cells #[.slice a2 n2 k2, .slice a3 n3 k3] 48)).alloc (.cells (pyA (.slice a2 n2 k2) (.slice a3 n3 k3)) 67)) := (HF.out.allocr _).allocr _
    have hsw := HF.out.size
    generalize ((w1.alloc (.cells #[.slice a2 n2 k2, .slice a3 n3 k3] 48)).alloc (.cells (pyA (.slice a2 n2 k2) (.slice a3 n3 k3)) 67)) = W at hPV hFW ⊢
    obtain ⟨b, hbE⟩ : ∃ b, w1.heap.size + 1 = b := ⟨_, rfl⟩
    have hbw : w.heap.size ≤ b := by omega
    rw [hbE] at hPV ⊢
    clear hbE hsw HNP HR1
    obtain ⟨ws, hws⟩ : ∃ ws : Wp, ws = ⟨.slice a2 n2 k2, .slice a3 n3 k3, th, [], 67⟩ := ⟨_, rfl⟩
    have HV2 : Hid (ws.v2 = .slice a2 n2 k2) := by show _ = _; rw [hws]
    have HV3 : Hid (ws.v3 = .slice a3 n3 k3) := by show _ = _; rw [hws]
    have HWT : Hid (ws.th = th) := by show _ = _; rw [hws]
    rw [← hws] at hPV
    clear hws
    have HKT : Hid (ThOk st ws.th ∧ TaOk ws.th ∧ ws.th.length ≤ 1000000) := by show _ ∧ _; rw [HWT.out]; exact HTHK.out
    refine (begin_any W b st ws py0 nilV HPK.out.wf HPK.out.sz HPK.out.s0 hPV (by show 0 + _ ≤ _; omega)).mono ?_
    rintro e w3 ⟨rfl, hl3, vo3, hp3, he3⟩
    have HP3 : Hid (PyV w3 b st ws (plK st ws.th es 0) vo3) := hp3
    have HL3 : Hid ((plK st ws.th es 0).out.length ≤ 5368709120 + 0 * 139586564001) := by
      have h0 : py0.out.length = 0 := rfl
      rw [h0] at hl3
      show (enF st 26 0 Am.free py0).out.length ≤ _
      omega
    have HE3 : Hid (EvY b nilV vo3 W w3) := he3
    have HFW : Hid (Fr (fun _ => False) w W) := hFW
    clear hp3 hl3 he3 hPV hFW hne
    go_wp2_with fail
    go_loopg [12] 401 (fun g vi wr => ∃ (k : Nat) (vq : Value), k ≤ es.size ∧ vi = .int .i64 k ∧ PyV wr b st ws (plK st ws.th es k) vq ∧ EvY b nilV vq W wr ∧ Hid ((plK st ws.th es k).out.length ≤ 5368709120 + k * 139586564001) ∧ es.size - k ≤ g)
    case atStart => exact ⟨0, vo3, Nat.zero_le _, rfl, HP3.out, HE3.out, HL3, by omega⟩
    case round =>
      obtain ⟨k, vq, hk, rfl, hpq, heq, HL, hg⟩ := hrel
      by_cases hlt : (k : Int) < es.size
      · have hlt' : k < es.size := by omega
        have hmul : k * 139586564001 ≤ 399 * 139586564001 := Nat.mul_le_mul_right _ (by omega)
        have hmul2 : (k + 1) * 139586564001 = k * 139586564001 + 139586564001 := Nat.succ_mul _ _
        have HNX : Hid (plK st ws.th es (k + 1) = spF st ws.th (byte es k) { plK st ws.th es k with out := (plK st ws.th es k).out ++ [46] }) := rfl
        have HX : Hid (byte es k = es[k]) := byte_in es k hlt'
        have HBD : Hid ((plK st ws.th es k).out.length + 1 + 139586564000 ≤ 70000000000000 ∧ ∀ n : Nat, n ≤ (plK st ws.th es k).out.length + 1 + 139586564000 → n ≤ 5368709120 + (k + 1) * 139586564001) := by
          have := HL.out
          refine ⟨by omega, fun n hn => by omega⟩
        clear hmul hmul2 HL
        generalize plK st ws.th es k = q at *
        obtain ⟨qa, qc, hvq⟩ := row_lenB hpq.ro
        subst hvq
        have co := hpq.co
        have cz := hpq.fz 704
        have hbl := Blk.lt hpq.blk
        have hpA := hpq.fr0 (Fr.alloc (fun _ => False) wr (.cells #[.int .u8 46] 5))
        have heA := heq.then0 (Fr.alloc (fun _ => False) wr (.cells #[.int .u8 46] 5))
        have hbd := HBD.out.1
        go_wp2_with (at_builtin; refine wpList_appendP rfl _ _ _ rfl (b + 1) _ elemU8 _ q.out.length (byV q.out) rfl hpA.ro ⟨wr.heap.size, 0, none⟩ 1 1 [.int .u8 46] rfl rfl (by exact cells_new (Blk.new _ _ _)) (by intro u hu; simp at hu; subst hu; rfl) (by omega) (by simp; omega) ?_; intro ra rc w4 hrow4 hgrow4 hold4; have hG4 : Fr (fun j => (Value.slice qa q.out.length qc).ownBlock = some j) _ w4 := Fr.grown (fun j => (Value.slice qa q.out.length qc).ownBlock = some j) hgrow4 (fun _ e => e); have hb4 := Blk.fr hpA.blk hG4 (fun e => by have := (hpA.roB b e).1; omega); have m4 : w4.cell? ⟨b, 704, none⟩ = some (.slice qa q.out.length qc) := by { rw [Blk.cell hb4, ← Blk.cell hpA.blk]; exact hpA.co }; have mz := Blk.frozen hb4 704)
        obtain ⟨hp5, he5⟩ := hpA.grow [46] hgrow4 (v' := .slice ra (q.out.length + 1) rc) (by rw [List.length_append, byV, List.map_append]; exact hrow4) hold4
        refine (step_any _ b st ws { q with out := q.out ++ [46] } _ (es[k]) HPK.out.wf HPK.out.sz HPK.out.rm hp5 HKT.out.1 HKT.out.2.1 HKT.out.2.2 (by show (q.out ++ [46]).length + _ ≤ _; rw [List.length_append]; exact hbd)).mono ?_
        rintro e w6 ⟨rfl, hl6, vo6, hp6, he6⟩
        have HP6 : Hid (PyV w6 b st ws (plK st ws.th es (k + 1)) vo6) := by show PyV _ _ _ _ _ _; rw [HNX.out, HX.out]; exact hp6
        have HL6 : Hid ((plK st ws.th es (k + 1)).out.length ≤ 5368709120 + (k + 1) * 139586564001) := by
          show _ ≤ _; rw [HNX.out, HX.out]
          refine HBD.out.2 _ ?_
          have h3 : ({ q with out := q.out ++ [46] } : Py).out.length = q.out.length + 1 := by show (q.out ++ [46]).length = _; rw [List.length_append]; rfl
          rw [h3] at hl6
          exact hl6
        have HE6 : Hid (EvY b nilV vo6 W w6) := (heA.trans he5).trans he6
        clear hl6 hp6 he6 hp5 he5 hpA heA hpq heq hrow4 hgrow4 hold4 hG4 hb4 m4 mz co cz
        go_wp2_with fail
        go_roundg (es.size - (k + 1))
        case measure => omega
        case rel => exact ⟨k + 1, vo6, by omega, by go_num, HP6.out, HE6.out, HL6, Nat.le_refl _⟩
      · have hkn : k = es.size := by omega
        subst hkn
        have HQ : Hid (plK (unSt s) th es es.size = plK st ws.th es es.size) := by show _ = _; rw [HST.out, HWT.out]
        have HFE : Hid (Fr (fun _ => False) w wr) := HFW.out.trans heq.fr (U := fun _ => False) (fun _ _ h => h) (fun i hi ho => by
          rcases ho with h | h
          · omega
          · simp [nilV, Value.ownBlock] at h)
        have HLB : Hid ((plK st ws.th es es.size).out.length ≤ 70000000000000) := by
          have h1 := HL.out
          have h2 : es.size * 139586564001 ≤ 400 * 139586564001 := Nat.mul_le_mul_right _ hes
          show _ ≤ _
          omega
        clear HL
        generalize plK st ws.th es es.size = q at *
        obtain ⟨qa, qc, hvq⟩ := row_lenB hpq.ro
        subst hvq
        have co := hpq.co
        have c0 := hpq.c0
        have c1 := hpq.c1
        rw [HV2.out] at c0
        rw [HV3.out] at c1
        have rn := hpq.rnow
        have HSN : Hid ((Tryd.prog.info? 64).map (·.size) = some (nowC q.act q.mm).length) := by
          show _ = _; rw [size_now, nowC, List.length_append, bV_len, hpq.ok.la, mmC_len q.mm hpq.ok.le, hpq.ok.lm]
        have hsn := HSN.out
        have HPQ : Hid _ := hpq
        have hst0 := statusText_any wr st ws q.act q.mm HPK.out.wf hpq.pl hpq.ok.la hpq.ok.lm hpq.ok.le
        rw [HV2.out, HV3.out] at hst0
        have HSTT : Hid _ := hst0
        clear hst0 hpq heq
        go_wp2_with (first | (refine wpList_load_mid rfl 64 _ rfl _ _ rfl _ _ rn Tryd.underlying64 rfl hsn ?_))
        refine Calls.mono HSTT.out ?_
        rintro e w6 ⟨rfl, hf6⟩
        have hp6 := HPQ.out.fr0 hf6
        have co6 := hp6.co
        have HCV : Hid (Sem.run Tryd.prog (convert 65 9 (.slice qa q.out.length qc)) w6 = .ok (.string ⟨q.out.toArray⟩) w6) := conv_row hp6.ro
        have hcv := HCV.out
        have HF6 : Hid (Fr (fun _ => False) w w6) := HFE.out.thenr hf6 (fun _ _ h => h)
        obtain ⟨sx, hsx⟩ : ∃ sx : ByteArray, (⟨(stT st q.act q.mm st.length).toArray⟩ : ByteArray) = sx := ⟨_, rfl⟩
        have HSX : Hid ((⟨(stT st q.act q.mm st.length).toArray⟩ : ByteArray) = sx) := hsx
        rw [hsx]
        clear hsx hp6 hf6 co c0 c1 rn hsn
        go_wp2_with fail
        refine bodyPost_ret (v := .tuple #[.string ⟨q.out.toArray⟩, .string sx, .int .i64 0, .int .i64 0]) (by simp [results, Tryd.results12, go_sem]) rfl ⟨HF6.out, Or.inr ⟨HE.out, th, HTH.out, by rw [HQ.out]; exact HLB.out, ?_⟩⟩
        rw [HQ.out, HST.out, HSX.out]
  · have hne : (((unE s).1 : Int) != 0) = true := by rw [bne_iff_ne]; omega
    have HE : Hid ((unE s).1 ≠ 0) := hE
    have HF : Hid (Fr (fun _ => False) w w1) := hfr
    clear hE hfr hpl
    go_wp2_with fail
    refine bodyPost_ret (v := .tuple #[.string ⟨#[]⟩, .string ⟨#[]⟩, .int .i64 (unE s).1, .int .i64 (unE s).2]) (by simp [results, Tryd.results12, go_sem]) rfl ⟨HF.out.allocr _, Or.inl ⟨HE.out, rfl⟩⟩
end Go.Proofs.YtmolmbeeoecnfabDoor
