/- Own work: PgBZ. -/
import Derived.Test.YtmolmbeeoecnfaaGreatDoorF41
/- Own work: the document's game in memory; walks: possible, first. -/
namespace Go.Proofs.YtmolmbeeoecnfaaGreatDoor
open Go.RowKit Go.BigFrame
set_option linter.unusedVariables false
set_option linter.unusedSimpArgs false

structure GM where
 c : GC
 gb : Nat
 ob : Nat
 mb : Nat
 v5 : Value
 v6 : Value
 co : Nat
 cm : Nat
 so : List Value
 sm : List Value
structure Gm (w : World) (M : GM) (on : List Bool) (me : List ByteArray) (o : ByteArray) : Prop where
 ct : Ct w M.c
 blk : Blk w M.gb #[.slice (some ⟨M.c.g3, 0, none⟩) M.c.sts.length M.c.c3, .slice M.c.a4 M.c.trs.length M.c.c4, M.v5, M.v6, .slice (some ⟨M.ob, 0, none⟩) M.c.sts.length M.co, .slice (some ⟨M.mb, 0, none⟩) M.c.sts.length M.cm, .string o] 57
 bo : Blk w M.ob (bV on ++ M.so).toArray 4
 bm : Blk w M.mb (me.map Value.string ++ M.sm).toArray 9
 lo : on.length = M.c.sts.length
 lm : me.length = M.c.sts.length
 d1 : M.gb ≠ M.ob
 d2 : M.gb ≠ M.mb
 d3 : M.ob ≠ M.mb
 n3 : M.c.g3 ≠ M.gb ∧ M.c.g3 ≠ M.ob ∧ M.c.g3 ≠ M.mb
 n4 : ∀ k, (Value.slice M.c.a4 M.c.trs.length M.c.c4).ownBlock = some k → k ≠ M.gb ∧ k ≠ M.ob ∧ k ≠ M.mb
section
variable {w w' : World} {M : GM} {on : List Bool} {me : List ByteArray} {o : ByteArray}
theorem Gm.fr0 (h : Gm w M on me o) (f : Fr (fun _ => False) w w') : Gm w' M on me o :=
 ⟨h.ct.fr0 f, Blk.fr h.blk f (fun h => h), Blk.fr h.bo f (fun h => h), Blk.fr h.bm f (fun h => h), h.lo, h.lm, h.d1, h.d2, h.d3, h.n3, h.n4⟩
theorem Gm.cp (h : Gm w M on me o) : Cp w M.c M.gb := ⟨by rw [Blk.cell h.blk]; rfl, by rw [Blk.cell h.blk]; rfl⟩
theorem Gm.c4 (h : Gm w M on me o) : w.cell? ⟨M.gb, 4, none⟩ = some (.slice (some ⟨M.ob, 0, none⟩) M.c.sts.length M.co) := by rw [Blk.cell h.blk]; rfl
theorem Gm.c5 (h : Gm w M on me o) : w.cell? ⟨M.gb, 5, none⟩ = some (.slice (some ⟨M.mb, 0, none⟩) M.c.sts.length M.cm) := by rw [Blk.cell h.blk]; rfl
theorem Gm.c6 (h : Gm w M on me o) : w.cell? ⟨M.gb, 6, none⟩ = some (.string o) := by rw [Blk.cell h.blk]; rfl
theorem Gm.on' (h : Gm w M on me o) {i : Nat} (hi : i < M.c.sts.length) : w.cell? ⟨M.ob, i, none⟩ = some (.bool (mem on i)) := by
 rw [Blk.cell h.bo]
 have : i < on.length := by rw [h.lo]; exact hi
 rw [List.getElem?_toArray, List.getElem?_append_left (by simpa [bV] using this)]
 simp [bV, mem, this]
theorem Gm.me' (h : Gm w M on me o) {i : Nat} {v : ByteArray} (hi : me[i]? = some v) : w.cell? ⟨M.mb, i, none⟩ = some (.string v) := by
 have hl := (List.getElem?_eq_some_iff.1 hi).1
 rw [Blk.cell h.bm, List.getElem?_toArray, List.getElem?_append_left (by simpa using hl), List.getElem?_map, hi]
 rfl
end
def onOf (n : Nat) (act : List Bool) : List Bool := (List.range n).map (mem act)
theorem onOf_len (n : Nat) (act : List Bool) : (onOf n act).length = n := by simp [onOf]
theorem onOf_mem (n : Nat) (act : List Bool) (i : Nat) (h : i < n) : mem (onOf n act) i = mem act i := by
 conv => lhs; unfold mem
 simp [onOf, h]

theorem cs_len (cs : List CdP) : (csStr cs).size = 2 * cs.length := by
 have h : (csStr cs).size = (cs.flatMap fun c => [sgn c, c.name]).length := rfl
 rw [h]
 induction cs with
 | nil => rfl
 | cons c cs ih => simp only [List.flatMap_cons, List.length_append, List.length_cons, List.length_nil]; rw [ih rfl]; omega
theorem cs_get : ∀ (cs : List CdP) (j : Nat) (c : CdP), cs[j]? = some c → (cs.flatMap fun c => [sgn c, c.name])[2 * j]? = some (sgn c) ∧ (cs.flatMap fun c => [sgn c, c.name])[2 * j + 1]? = some c.name
 | [], j, c, h => by simp at h
 | a :: cs, 0, c, h => by simp at h; subst h; simp
 | a :: cs, j + 1, c, h => by
  have ih := cs_get cs j c (by simpa using h)
  rw [show 2 * (j + 1) = 2 * j + 1 + 1 by omega]
  simpa using ih
theorem cs_byte (cs : List CdP) (j : Nat) (c : CdP) (h : cs[j]? = some c) : byte (csStr cs) (2 * j) = sgn c ∧ byte (csStr cs) (2 * j + 1) = c.name := by
 obtain ⟨h1, h2⟩ := cs_get cs j c h
 exact ⟨(byte_get (S := csStr cs) (by simpa [csStr] using h1)).2, (byte_get (S := csStr cs) (by simpa [csStr] using h2)).2⟩
structure TqF (G : GC) (st : List StP) (t : TrR) (q : TrQ) : Prop where
 r : TqR G st t q
 ev : t.event = q.event
 cs : t.conds = csStr q.conds
 ci : ∀ c ∈ q.conds, ∃ k : Nat, idx G.sts c.name = (k : Int) ∧ c.state = (k : Int) ∧ k < G.sts.length
 cl : q.conds.length ≤ 1000000
 mk' : t.mark = mkStr q.mark
 ac : t.acts = q.acts

set_option maxRecDepth 100000 in
set_option maxHeartbeats 1000000 in
theorem dpossible_any (w : World) (M : GM) (st : List StP) (act : List Bool) (me : List ByteArray) (o : ByteArray) (hg : Gm w M (onOf M.c.sts.length act) me o) (t : TrR) (q : TrQ) (hq : TqF M.c st t q) (hl : M.c.sts.length = st.length) (ev : UInt8) :
    Calls Tryz.prog 95 #[.pointer (some ⟨M.gb, 0, none⟩), .agg t.cells.toArray, .int .u8 ev.toNat] w fun e w' => e = .returned (.bool (mem act q.own && (q.event == ev && holdB act q.conds))) ∧ Fr (fun _ => False) w w' := by
  have hown : q.own < M.c.sts.length := by rw [hl]; exact hq.r.ok.1
  have HL : Hid _ := hl
  have hl26 := hg.ct.l3
  clear hl
  have hcl := hq.cl
  have hbt := Blk.new w t.cells.toArray 96
  have hfw : Fr (fun _ => False) w (w.alloc (.cells t.cells.toArray 96)) := by (repeat (first | exact Fr.refl _ _ | assumption | refine Fr.drewNr ?_ _ | refine Fr.drewr ?_ | refine Fr.allocr ?_ _ | refine Fr.setCellr ?_ _ _ (by first | exact Or.inl rfl | (right; simp; done) | (right; simp; omega))))
  have hgw := hg.fr0 hfw
  have e0 : (w.alloc (.cells t.cells.toArray 96)).cell? ⟨w.heap.size, 0, none⟩ = some (.int .i64 q.own) := by rw [Blk.cell hbt, ← hq.r.fr]; rfl
  have e1 : (w.alloc (.cells t.cells.toArray 96)).cell? ⟨w.heap.size, 1, none⟩ = some (.int .u8 q.event.toNat) := by rw [Blk.cell hbt, ← hq.ev]; rfl
  have HE2 : Hid (∀ w', Fr (fun _ => False) (w.alloc (.cells t.cells.toArray 96)) w' → w'.cell? ⟨w.heap.size, 2, none⟩ = some (.string (csStr q.conds))) := fun w' f => by rw [Blk.cell (Blk.fr hbt f (fun h => h)), ← hq.cs]; rfl
  have HCI : Hid _ := hq.ci
  have f4 := hgw.c4
  have f0 := hgw.on' hown
  rw [onOf_mem _ _ _ hown] at f0
  have HCS : Hid _ := cs_len q.conds
  generalize t.cells.toArray = T at *
  clear hg hq hbt
  go_enter Tryz.func95, Tryz.ntmps95
  go_wp2_with fail
  generalize w.alloc (.cells T 96) = W at *
  generalize w.heap.size = tb at *
  cases ha : mem act q.own with
  | false =>
    rw [ha] at f0
    have HA : Hid _ := ha
    clear ha
    go_big_quiet (fail)
    go_wp2_with fail
    go_ret
    exact ⟨ret_bH (by rw [HA.out]; rfl), by (repeat (first | exact Fr.refl _ _ | assumption | refine Fr.drewNr ?_ _ | refine Fr.drewr ?_ | refine Fr.allocr ?_ _ | refine Fr.setCellr ?_ _ _ (by first | exact Or.inl rfl | (right; simp; done) | (right; simp; omega))))⟩
  | true =>
    rw [ha] at f0
    have HA : Hid _ := ha
    clear ha
    by_cases he : q.event = ev
    · have hb : ((q.event.toNat : Int) != ev.toNat) = false := by rw [he]; simp
      have HHE : Hid ((q.event == ev) = true) := by show _ = _; rw [beq_iff_eq]; exact he
      clear he
      go_big_quiet (fail)
      go_wp2_with fail
      clear e0 e1 f4 f0
      go_loopw [7] (fun vi wr => ∃ m k : Nat, k ≤ q.conds.length ∧ m ≤ 2000000 ∧ Hid (m = 2 * k) ∧ vi = .int .i64 m ∧ Hid (∀ j, j < k → fails act q.conds j = false) ∧ Fr (fun _ => False) W wr) (fun vi _ => 2 * q.conds.length + 2 - (intOf vi).toNat)
      case atStart => exact ⟨0, 0, Nat.zero_le _, Nat.zero_le _, rfl, rfl, fun j hj => (by omega), by (repeat (first | exact Fr.refl _ _ | assumption | refine Fr.drewNr ?_ _ | refine Fr.drewr ?_ | refine Fr.allocr ?_ _ | refine Fr.setCellr ?_ _ _ (by first | exact Or.inl rfl | (right; simp; done) | (right; simp; omega))))⟩
      case round =>
        obtain ⟨m, k, hk, hm2, HM, rfl, HJ, hfr⟩ := hrel
        have hfo := hfw.thenr hfr (fun _ _ h => h)
        have e2 := HE2.out _ hfr
        by_cases hlt : k < q.conds.length
        · obtain ⟨cd, hcd⟩ : ∃ cd, q.conds[k]? = some cd := ⟨_, List.getElem?_eq_getElem hlt⟩
          obtain ⟨b0, b1⟩ := cs_byte q.conds k cd hcd
          rw [← HM.out] at b0 b1
          obtain ⟨z, z1, z2, z3⟩ := HCI.out cd (List.mem_of_getElem? hcd)
          have HF : Hid (fails act q.conds k = (mem act z != cd.active)) := by show _ = _; unfold fails; rw [hcd]; simp only; rw [z2, Int.toNat_natCast]
          have hgr := hgw.fr0 hfr
          have h1 : m + 1 < (csStr q.conds).size := by have := HCS.out; have := HM.out; omega
          have HMB : Hid (m + 2 ≤ 2 * q.conds.length) := by show _ ≤ _; have := HM.out; omega
          generalize csStr q.conds = CS at *
          have hi0 : m < CS.size := by omega
          have h1I : (m : Int) + 1 < CS.size := by omega
          rw [byte_in CS _ hi0] at b0
          rw [byte_in CS _ h1] at b1
          have HB0 : Hid (CS[m] = sgn cd) := b0
          have HB1 : Hid (CS[m + 1] = cd.name) := b1
          clear b0 b1 hcd z2
          have HZ : Hid _ := z1
          have hcr := hgr.ct
          have hpr := hgr.cp
          clear z1
          go_wp2_with fail
          have hwr : IntKind.i64.wrap ((m : Int) + 1) = (m : Int) + 1 := by rw [IntKind.wrap_i64]; omega
          have HIX : Hid (∀ w', Fr (fun _ => False) wr w' → ∀ c : UInt8, Calls Tryz.prog 53 #[.pointer (some ⟨M.gb, 0, none⟩), .int .u8 c.toNat] w' fun e w'' => e = .returned (.int .i64 (idx M.c.sts c)) ∧ w'' = w') := fun w' f c => index_any w' M.gb 0 _ M.c.sts c (hpr.fr0 f).c0 (hcr.fr0 f).r3 (by omega)
          go_region_with (go_at_call 53; refine Calls.mono (HIX.out _ ?_ _) ?_; (repeat (first | exact Fr.refl _ _ | assumption | refine Fr.drewNr ?_ _ | refine Fr.drewr ?_ | refine Fr.allocr ?_ _ | refine Fr.setCellr ?_ _ _ (by first | exact Or.inl rfl | (right; simp; done) | (right; simp; omega)))); rintro e w1 ⟨rfl, rfl⟩)
          all_goals
            clear hwr
            rw [HB1.out, HZ.out]
            have b38 : ((CS[m].toNat : Int) == 38) = cd.active := by
              rw [HB0.out]; unfold sgn; cases cd.active <;> rfl
            have f4 := hgr.c4
            have fz := hgr.on' z3
            rw [onOf_mem _ _ _ z3] at fz
            by_cases hfail : mem act z = cd.active
            · have hn2 : (mem act z != cd.active) = false := by rw [hfail]; simp
              have HFN : Hid (fails act q.conds k = false) := by show _ = _; rw [HF.out]; exact hn2
              clear hn2 HF
              rw [hfail] at fz
              clear hfail
              generalize cd.active = B at *
              go_wp2_with fail
              go_region
              all_goals
                go_wp2_with fail
                refine ⟨⟨m + 2, k + 1, ?_, ?_, ?_, ?_, ?_, ?_⟩, ?_⟩
                · omega
                · have := HMB.out; omega
                · show _ = _; have := HM.out; omega
                · go_num
                · exact below_step HJ.out HFN.out
                · (repeat (first | exact Fr.refl _ _ | assumption | refine Fr.drewNr ?_ _ | refine Fr.drewr ?_ | refine Fr.allocr ?_ _ | refine Fr.setCellr ?_ _ _ (by first | exact Or.inl rfl | (right; simp; done) | (right; simp; omega))))
                · have := HMB.out; simp [intOf]; omega
            · have hn2 : (mem act z != cd.active) = true := by rw [bne_iff_ne]; exact hfail
              have HI : Hid (holdB act q.conds = false) := by
                show _ = _
                unfold holdB
                rw [firstB_some (fails act q.conds) k (by rw [HF.out]; exact hn2) HJ.out q.conds.length hlt]; rfl
              have hA : mem act z = !cd.active := by cases h1 : mem act z <;> cases h2 : cd.active <;> simp_all
              rw [hA] at fz
              clear hfail hn2 HF hA
              generalize cd.active = B at *
              go_wp2_with fail
              go_region
              all_goals
                go_wp2_with fail
                go_ret
                exact ⟨ret_bH (by rw [HA.out, HHE.out, HI.out]; rfl), by (repeat (first | exact Fr.refl _ _ | assumption | refine Fr.drewNr ?_ _ | refine Fr.drewr ?_ | refine Fr.allocr ?_ _ | refine Fr.setCellr ?_ _ _ (by first | exact Or.inl rfl | (right; simp; done) | (right; simp; omega))))⟩
        · have HI : Hid (holdB act q.conds = true) := by
            show _ = _
            unfold holdB
            rw [firstB_none (fails act q.conds) q.conds.length (fun j hj => HJ.out j (by omega))]; rfl
          have hn1 : ¬ (m : Int) + 1 < (csStr q.conds).size := by have := HCS.out; have := HM.out; omega
          generalize csStr q.conds = CS at *
          go_wp2_with fail
          go_ret
          exact ⟨ret_bH (by rw [HA.out, HHE.out, HI.out]; rfl), hfo⟩
    · have hb : ((q.event.toNat : Int) != ev.toNat) = true := by
        rw [bne_iff_ne]; intro h; exact he (UInt8.toNat_inj.1 (by omega))
      have HHE : Hid ((q.event == ev) = false) := by show _ = _; rw [beq_eq_false_iff_ne]; exact he
      clear he
      go_big_quiet (fail)
      go_wp2_with fail
      go_ret
      exact ⟨ret_bH (by rw [HHE.out, HA.out]; rfl), by (repeat (first | exact Fr.refl _ _ | assumption | refine Fr.drewNr ?_ _ | refine Fr.drewr ?_ | refine Fr.allocr ?_ _ | refine Fr.setCellr ?_ _ _ (by first | exact Or.inl rfl | (right; simp; done) | (right; simp; omega))))⟩

theorem tr6F {w : World} {tr : List TrR} {g n c k : Nat} {x : TrR} (h3 : w.ownsRow 0 96 6 (.slice (some ⟨g, 0, none⟩) n c) n (tr.flatMap TrR.cells)) (hx : tr[k]? = some x) :
  w.cell? ⟨g, k * 6, none⟩ = some (.int .i64 x.from_) ∧ w.cell? ⟨g, k * 6 + 1, none⟩ = some (.int .u8 x.event.toNat) ∧ w.cell? ⟨g, k * 6 + 2, none⟩ = some (.string x.conds) ∧ w.cell? ⟨g, k * 6 + 3, none⟩ = some (.int .u8 x.target.toNat) ∧ w.cell? ⟨g, k * 6 + 4, none⟩ = some (.string x.mark) ∧ w.cell? ⟨g, k * 6 + 5, none⟩ = some (.string x.acts) := by
 have key : ∀ o v, o < 6 → x.cells[o]? = some v → w.cell? ⟨g, k * 6 + o, none⟩ = some v := fun o v ho hv =>
  (row_cell h3 (k * 6 + o) v (by rw [flat_get TrR.cells 6 (fun _ => rfl) tr k o x hx ho]; exact hv)).1
 exact ⟨key 0 _ (by omega) rfl, key 1 _ (by omega) rfl, key 2 _ (by omega) rfl, key 3 _ (by omega) rfl, key 4 _ (by omega) rfl, key 5 _ (by omega) rfl⟩
structure TrsR (G : GC) (st : List StP) (th : List TrH) : Prop where
 len : G.trs.length = th.length
 each : ∀ (k : Nat) (t : TrR) (h : TrH), G.trs[k]? = some t → th[k]? = some h → TqF G st t h.q

set_option maxRecDepth 100000 in
set_option maxHeartbeats 1000000 in
theorem dfirst_any (w : World) (M : GM) (st : List StP) (th : List TrH) (act : List Bool) (me : List ByteArray) (o : ByteArray) (hg : Gm w M (onOf M.c.sts.length act) me o) (ht : TrsR M.c st th) (hl : M.c.sts.length = st.length) (s : Nat) (hs : mem act s = true) (ev : UInt8) :
    Calls Tryz.prog 75 #[.pointer (some ⟨M.gb, 0, none⟩), .int .i64 s, .int .u8 ev.toNat] w fun e w' => e = .returned (.int .i64 (fpo th act s ev)) ∧ Fr (fun _ => False) w w' := by
  have HT : Hid _ := ht
  have HL : Hid _ := hl
  have HS : Hid _ := hs
  have h4 := hg.ct.l4
  clear ht hl hs
  go_enter Tryz.func75, Tryz.ntmps75
  go_wp2_with fail
  go_loopw [7] (fun vk wr => ∃ k : Nat, k ≤ M.c.trs.length ∧ vk = .int .i64 k ∧ Hid (∀ j, j < k → posB th act s ev j = false) ∧ Fr (fun _ => False) w wr) (fun vk _ => M.c.trs.length - (intOf vk).toNat)
  case atStart => exact ⟨0, Nat.zero_le _, rfl, fun j hj => (by omega), Fr.refl _ _⟩
  case round =>
    obtain ⟨k, hk, rfl, HJ, hfr⟩ := hrel
    have hgr := hg.fr0 hfr
    obtain ⟨c0, c1⟩ := hgr.cp
    have hr4 := hgr.ct.r4
    by_cases hlt : (k : Int) < M.c.trs.length
    · have hlt' : k < M.c.trs.length := by omega
      obtain ⟨g4, cc4, hv4, hcc4⟩ := row_form hr4 (by omega)
      rw [hv4] at c1 hr4
      obtain ⟨t, hx⟩ : ∃ t, M.c.trs[k]? = some t := ⟨_, List.getElem?_eq_getElem hlt'⟩
      obtain ⟨h, hh⟩ : ∃ h, th[k]? = some h := ⟨_, List.getElem?_eq_getElem (by rw [← HT.out.len]; exact hlt')⟩
      have hq := HT.out.each k t h hx hh
      obtain ⟨t0, t1, t2, t3, t4, t5⟩ := tr6F hr4 hx
      have HP : Hid (posB th act s ev k = (h.q.own == s && (h.q.event == ev && holdB act h.q.conds))) := by show _ = _; unfold posB; rw [hh]
      have HQ : Hid _ := hq
      have hfrm := hq.r.fr
      rw [hfrm] at t0
      have HTC : Hid (t.cells.toArray = #[.int .i64 h.q.own, .int .u8 t.event.toNat, .string t.conds, .int .u8 t.target.toNat, .string t.mark, .string t.acts]) := by show _ = _; rw [← hfrm]; rfl
      have hthl := HT.out.len
      have HLT : Hid (k < th.length) := by show _ < _; omega
      clear hx hh hq hfrm hv4 hthl
      by_cases ho : h.q.own = s
      · have hob : ((h.q.own : Int) == s) = true := by rw [ho]; simp
        have HO : Hid _ := ho
        clear ho
        go_wp2_with fail
        have hpos := dpossible_any wr M st act me o hgr t h.q HQ.out HL.out ev
        rw [HTC.out] at hpos
        refine hpos.mono ?_
        rintro e w1 ⟨rfl, hf1⟩
        have hv : (mem act h.q.own && (h.q.event == ev && holdB act h.q.conds)) = posB th act s ev k := by rw [HP.out, HO.out, HS.out]; simp
        rw [hv]
        clear hv hpos
        have hfo := hfr.thenr hf1 (fun _ _ h => h)
        cases hb : posB th act s ev k with
        | true =>
          have HI : Hid (fpo th act s ev = k) := by show _ = _; unfold fpo; rw [firstB_some (posB th act s ev) k hb HJ.out th.length HLT.out]
          clear hb
          go_wp2_with fail
          go_ret
          exact ⟨ret_i64 HI.out.symm, hfo⟩
        | false =>
          have HB : Hid _ := hb
          clear hb
          go_wp2_with fail
          go_roundw
          case rel => exact ⟨k + 1, by omega, by go_num, below_step HJ.out HB.out, hfo⟩
          case measure => simp [intOf]; omega
      · have hob : ((h.q.own : Int) == s) = false := by rw [beq_eq_false_iff_ne]; omega
        have HB : Hid (posB th act s ev k = false) := by show _ = _; rw [HP.out]; simp [ho]
        clear ho
        go_wp2_with fail
        go_roundw
        case rel => exact ⟨k + 1, by omega, by go_num, below_step HJ.out HB.out, hfr⟩
        case measure => simp [intOf]; omega
    · have HI : Hid (fpo th act s ev = -1) := by
        show _ = _
        unfold fpo
        rw [firstB_none (posB th act s ev) th.length (fun j hj => HJ.out j (by have := HT.out.len; omega))]
      go_wp2_with fail
      go_ret
      exact ⟨ret_i64 HI.out.symm, hfr⟩

set_option maxRecDepth 100000 in
set_option maxHeartbeats 2000000 in
theorem dcalled_any (w : World) (M : GM) (st : List StP) (th : List TrH) (act : List Bool) (me : List ByteArray) (o : ByteArray) (hg : Gm w M (onOf M.c.sts.length act) me o) (ht : TrsR M.c st th) (hk : Lk M.c.sts st) (htr : Tr st) (hL : Lg st act) (ev : UInt8) :
    Calls Tryz.prog 55 #[.pointer (some ⟨M.gb, 0, none⟩), .int .u8 ev.toNat] w fun e w' => ∃ v, e = .returned v ∧ Fr (fun _ => False) w w' ∧ w'.ownsRow 0 3 1 v (clL st th act ev).length (inV (clL st th act ev)) ∧ ∀ k, v.ownBlock = some k → w.heap.size ≤ k := by
  have HK : Hid _ := hk
  have HT : Hid _ := ht
  have HTR : Hid _ := htr
  have HLg : Hid _ := hL
  have HL : Hid (M.c.sts.length = st.length) := hk.len
  have hl3 := hg.ct.l3
  have hl4 := hg.ct.l4
  clear hk ht htr hL
  go_enter Tryz.func55, Tryz.ntmps55
  go_wp2_with fail
  go_loopw [5, 6] (fun vv vi wr => ∃ (k : Nat) (cv : Value), k ≤ M.c.sts.length ∧ vi = .int .i64 k ∧ vv = cv ∧ wr.ownsRow 0 3 1 cv (clK st th act ev k).length (inV (clK st th act ev k)) ∧ (∀ j, cv.ownBlock = some j → w.heap.size ≤ j) ∧ Fr (fun _ => False) w wr) (fun _ vi _ => M.c.sts.length - (intOf vi).toNat)
  case atStart => exact ⟨0, _, Nat.zero_le _, rfl, rfl, World.ownsRow_nil _ _ _ _, fun j hj => (by simp [Value.ownBlock] at hj), Fr.refl _ _⟩
  case round =>
    obtain ⟨k, cv, hk, rfl, rfl, hrow, hown, hfr⟩ := hrel
    have hgr := hg.fr0 hfr
    have c4 := hgr.c4
    obtain ⟨c0, c1⟩ := hgr.cp
    by_cases hlt : (k : Int) < M.c.sts.length
    · have hlt' : k < M.c.sts.length := by omega
      have fk := hgr.on' hlt'
      rw [onOf_mem _ _ _ hlt'] at fk
      obtain ⟨x, hx⟩ : ∃ x, M.c.sts[k]? = some x := ⟨_, List.getElem?_eq_getElem hlt'⟩
      obtain ⟨-, -, -, -, x4, -, -, -⟩ := st8 hgr.ct.r3 hx
      have HKD : Hid (x.kind = kindAt st k) := (HK.out.en k x hx).2.1
      have HS : Hid _ := clK_succ st th act ev k
      have hcl := clK_len st th act ev k
      obtain ⟨acc, hacc⟩ : ∃ acc, clK st th act ev k = acc := ⟨_, rfl⟩
      rw [hacc] at hrow HS hcl
      obtain ⟨ra, rk, hcv⟩ := row_len hrow
      have HR : Hid _ := hrow
      have HCV : Hid _ := hcv
      rw [hcv]
      clear hrow hcv hx hacc
      cases ha : mem act k with
      | false =>
        have HN : Hid (clK st th act ev (k + 1) = acc) := by show _ = _; rw [HS.out, cl1, if_neg (by rw [ha]; simp)]
        rw [ha] at fk
        clear ha
        go_wp2_with fail
        go_roundw
        case rel => exact ⟨k + 1, _, by omega, by go_num, HCV.out.symm, by rw [HN.out]; exact HR.out, hown, hfr⟩
        case measure => simp [intOf]; omega
      | true =>
        rw [ha] at fk
        by_cases hkd : x.kind = 0
        · have kb : ((x.kind : Int) != 0) = false := by rw [hkd]; rfl
          have HN : Hid (clK st th act ev (k + 1) = if cfO st th act ev k ≠ -1 ∧ amng acc (cfO st th act ev k).toNat = false then acc ++ [(cfO st th act ev k).toNat] else acc) := by
            show _ = _; rw [HS.out, cl1, if_pos ⟨by rw [← HKD.out, hkd], ha⟩]
          have HA : Hid _ := ha
          clear ha hkd HKD
          go_wp2_with fail
          clear c4 c0 c1 fk x4
          -- outward
          go_loopw [7, 8] (fun vs vk wq => ∃ (s t : Int) (f : Nat), -1 ≤ s ∧ s < M.c.sts.length ∧ s + 1 ≤ f ∧ -1 ≤ t ∧ t < 1000000 ∧ vs = .int .i64 s ∧ vk = .int .i64 t ∧ Hid ((t = -1 → cfF st th act ev f s = cfO st th act ev k) ∧ (t ≠ -1 → t = cfO st th act ev k)) ∧ (t = -1 → s ≠ -1 → mem act s.toNat = true) ∧ Fr (fun _ => False) wr wq) (fun vs _ _ => (intOf vs + 1).toNat)
          case atStart => exact ⟨k, -1, st.length + 1, by omega, by omega, (by have := HL.out; omega), by omega, by omega, rfl, rfl, ⟨fun _ => rfl, fun h => absurd rfl h⟩, fun _ _ => (by rw [Int.toNat_natCast]; exact HA.out), Fr.refl _ _⟩
          case round =>
            obtain ⟨s, t, f, hs1, hs2, hf, ht1, ht2, rfl, rfl, HI, hact, hfq⟩ := hrel
            rename World => wq
            have hgq := hgr.fr0 hfq
            by_cases hs : s = -1
            · by_cases htt : t = -1
              · have HTC : Hid (cfO st th act ev k = -1) := by
                  show _ = _
                  rw [← HI.out.1 htt, hs]
                  cases f <;> simp [cfF]
                subst hs
                subst htt
                clear HI hact
                have HR3 : Hid _ := row_fr HR.out hfq (fun _ _ h => h)
                have hfr3 := hfr.thenr hfq (fun _ _ h => h)
                have HN2 : Hid (clK st th act ev (k + 1) = acc) := by show _ = _; rw [HN.out, if_neg (fun h => h.1 HTC.out)]
                go_wp2_with fail
                go_loopw [9, 10] (fun vb vj w5 => ∃ j : Nat, j ≤ acc.length ∧ vj = .int .i64 j ∧ vb = .bool true ∧ Fr (fun _ => False) wq w5) (fun _ vj _ => acc.length - (intOf vj).toNat)
                case atStart => exact ⟨0, Nat.zero_le _, rfl, rfl, Fr.refl _ _⟩
                case round =>
                  obtain ⟨j, hj, rfl, rfl, hf5⟩ := hrel
                  have hrow5 := row_fr HR3.out hf5 (fun _ _ h => h)
                  have hfr5 := hfr3.thenr hf5 (fun _ _ h => h)
                  rename World => w5
                  by_cases hjl : (j : Int) < acc.length
                  · have hjl' : j < acc.length := by omega
                    rw [HCV.out] at hrow5
                    obtain ⟨gr, cr, hvr, hcr⟩ := row_form hrow5 (by omega)
                    injection hvr with e1 e2 e3
                    subst e1
                    subst e3
                    obtain ⟨y, hy⟩ : ∃ y, acc[j]? = some y := ⟨_, List.getElem?_eq_getElem hjl'⟩
                    have hcell := (row_cell hrow5 j (.int .i64 (y : Int)) (by simp [inV, hy])).1
                    clear hy e2
                    have yb : ((y : Int) == -1) = false := by rw [beq_eq_false_iff_ne]; omega
                    go_wp2_with fail
                    go_roundw
                    case rel => exact ⟨j + 1, by omega, by go_num, rfl, hf5⟩
                    case measure => simp [intOf]; omega
                  · go_wp2_with fail
                    go_roundw
                    case rel => exact ⟨k + 1, _, by omega, by go_num, HCV.out.symm, by rw [HN2.out]; exact hrow5, hown, hfr5⟩
                    case measure => simp [intOf]; omega
              · obtain ⟨n, hn⟩ : ∃ n : Nat, t = n := ⟨t.toNat, by omega⟩
                have HTN : Hid ((n : Int) = cfO st th act ev k) := by show _ = _; rw [← hn]; exact HI.out.2 htt
                subst hn
                subst hs
                clear HI hact htt
                have HR3 : Hid _ := row_fr HR.out hfq (fun _ _ h => h)
                have hfr3 := hfr.thenr hfq (fun _ _ h => h)
                go_wp2_with fail
                go_loopw [9, 10] (fun vb vj w5 => ∃ (j : Nat) (b : Bool), j ≤ acc.length ∧ vj = .int .i64 j ∧ vb = .bool b ∧ Hid (b = (firstB (isAt acc n) j).isSome) ∧ Fr (fun _ => False) wq w5) (fun _ vj _ => acc.length - (intOf vj).toNat)
                case atStart => exact ⟨0, false, Nat.zero_le _, rfl, rfl, rfl, Fr.refl _ _⟩
                case round =>
                  obtain ⟨j, b, hj, rfl, rfl, HBQ, hf5⟩ := hrel
                  have hrow5 := row_fr HR3.out hf5 (fun _ _ h => h)
                  have hfr5 := hfr3.thenr hf5 (fun _ _ h => h)
                  rename World => w5
                  by_cases hjl : (j : Int) < acc.length
                  · have hjl' : j < acc.length := by omega
                    rw [HCV.out] at hrow5
                    obtain ⟨gr, cr, hvr, hcr⟩ := row_form hrow5 (by omega)
                    injection hvr with e1 e2 e3
                    subst e1
                    subst e3
                    obtain ⟨y, hy⟩ : ∃ y, acc[j]? = some y := ⟨_, List.getElem?_eq_getElem hjl'⟩
                    have hcell := (row_cell hrow5 j (.int .i64 (y : Int)) (by simp [inV, hy])).1
                    have HST : Hid ((firstB (isAt acc n) (j + 1)).isSome = ((firstB (isAt acc n) j).isSome || (y == n))) := by
                      show _ = _
                      have e4 : isAt acc n j = (y == n) := by unfold isAt; rw [hy]
                      simp only [firstB]
                      cases firstB (isAt acc n) j with
                      | some z => rfl
                      | none => rw [e4]; cases (y == n) <;> rfl
                    clear hy e2
                    by_cases hyn : y = n
                    · have yb : ((y : Int) == n) = true := by rw [hyn]; simp
                      have HB2 : Hid (true = (firstB (isAt acc n) (j + 1)).isSome) := by show _ = _; rw [HST.out, hyn]; simp
                      clear hyn HST
                      go_wp2_with fail
                      go_roundw
                      case rel => exact ⟨j + 1, true, by omega, by go_num, rfl, HB2, hf5⟩
                      case measure => simp [intOf]; omega
                    · have yb : ((y : Int) == n) = false := by rw [beq_eq_false_iff_ne]; omega
                      have HB2 : Hid (b = (firstB (isAt acc n) (j + 1)).isSome) := by
                        show _ = _
                        have : (y == n) = false := by simpa using hyn
                        rw [HST.out, this, HBQ.out]; simp
                      clear hyn HST
                      go_wp2_with fail
                      go_roundw
                      case rel => exact ⟨j + 1, b, by omega, by go_num, rfl, HB2, hf5⟩
                      case measure => simp [intOf]; omega
                  · have hje : j = acc.length := by omega
                    have HAM : Hid (amng acc n = b) := by show _ = _; unfold amng; rw [HBQ.out, hje]
                    clear hje
                    cases b with
                    | true =>
                      have HN2 : Hid (clK st th act ev (k + 1) = acc) := by show _ = _; rw [HN.out, if_neg (fun h => by rw [← HTN.out, Int.toNat_natCast, HAM.out] at h; simp at h)]
                      go_wp2_with fail
                      go_roundw
                      case rel => exact ⟨k + 1, _, by omega, by go_num, HCV.out.symm, by rw [HN2.out]; exact hrow5, hown, hfr5⟩
                      case measure => simp [intOf]; omega
                    | false =>
                      have HN2 : Hid (clK st th act ev (k + 1) = acc ++ [n]) := by
                        show _ = _
                        rw [HN.out, if_pos ⟨by rw [← HTN.out]; omega, by rw [← HTN.out, Int.toNat_natCast]; exact HAM.out⟩, ← HTN.out, Int.toNat_natCast]
                      have hrow6 := row_fr hrow5 (Fr.alloc (fun _ => False) w5 (.cells #[.int .i64 n] 3)) (fun _ _ h => h)
                      have hownR : ∀ j, (Value.slice ra acc.length rk).ownBlock = some j → w.heap.size ≤ j := by rw [← HCV.out]; exact hown
                      rw [HCV.out] at hrow6
                      clear HN HAM
                      go_wp2_with (at_builtin; go_must (refine wpList_append1 rfl _ _ _ rfl _ 1 8 elemInt _ acc.length (inV acc) rfl hrow6 ⟨w5.heap.size, 0, none⟩ 1 [.int .i64 (n : Int)] rfl rfl (by exact cells_new (Blk.new' _ _ _ _ (by simp))) (by intro u hu; simp at hu; subst hu; rfl) (by unfold maxLen; omega) (by omega) ?_); intro g cap w4 hrow7 hgrow hgo)
                      go_roundw
                      case rel =>
                        have hfr4 : Fr (fun _ => False) w w4 := (hfr5.allocr _).trans (Fr.grown (fun j => (Value.slice ra acc.length rk).ownBlock = some j) hgrow (fun _ e => e)) (fun _ _ h => h) (fun i hi e => by have := hownR i e; omega)
                        refine ⟨k + 1, _, by omega, by go_num, rfl, ?_, ?_, hfr4⟩
                        · rw [HN2.out]
                          simpa [inV] using hrow7
                        · intro j hj
                          simp only [Value.ownBlock, Option.some.injEq] at hj
                          subst hj
                          have hsz := hfr5.size
                          rcases hgo with h | h
                          · exact hownR _ h
                          · simp at h; omega
                      case measure => simp [intOf]; omega
            · obtain ⟨m, hm⟩ : ∃ m : Nat, s = m := ⟨s.toNat, by omega⟩
              subst hm
              by_cases htt : t = -1
              · obtain ⟨g, hgf⟩ : ∃ g, f = g + 1 := ⟨f - 1, by omega⟩
                have hst : m < st.length := by have := HL.out; omega
                have ham : mem act m = true := by have := hact htt hs; rwa [Int.toNat_natCast] at this
                have HCF : Hid ((if fpo th act m ev ≠ -1 then fpo th act m ev else cfF st th act ev g (outAt st m)) = cfO st th act ev k) := by
                  show _ = _
                  rw [← HI.out.1 htt, hgf]
                  conv => rhs; unfold cfF
                  rw [if_neg hs, Int.toNat_natCast]
                have hup := HLg.out.up HTR.out hst ham
                have hbd := fpo_bd th act m ev
                have hthl := HT.out.len
                have hox := HTR.out.out_lt hst
                obtain ⟨y, hy⟩ : ∃ y, M.c.sts[m]? = some y := ⟨_, List.getElem?_eq_getElem (by omega)⟩
                have hpy : y.parent = outAt st m := by have := HK.out.pa m; rw [parAt, hy] at this; exact this
                subst htt
                have HAM : Hid _ := ham
                have HUP : Hid _ := hup
                have HY : Hid _ := hy
                have HTH : Hid _ := hthl
                have hgm : (m : Int) ≤ g := by omega
                have hbd2 : -1 ≤ fpo th act m ev ∧ fpo th act m ev < 1000000 := by omega
                clear HI hact ham hup hy hthl hgf hs hbd
                go_wp2_with fail
                refine (dfirst_any wq M st th act me o hgq HT.out HL.out m HAM.out ev).mono ?_
                rintro e w3 ⟨rfl, hf3⟩
                have hg3 := hgq.fr0 hf3
                obtain ⟨c0, c1⟩ := hg3.cp
                obtain ⟨-, -, z2, -, -, -, -, -⟩ := st8 hg3.ct.r3 HY.out
                rw [hpy] at z2
                generalize hfp : fpo th act m ev = v at *
                have HFP : Hid _ := hfp
                clear hfp
                go_wp2_with fail
                go_roundw
                case rel =>
                  refine ⟨outAt st m, v, g, by omega, by have := HL.out; omega, by omega, by omega, by omega, rfl, rfl, ⟨fun h => ?_, fun h => ?_⟩, fun h h2 => ?_, hfq.thenr hf3 (fun _ _ h => h)⟩
                  · rw [← HCF.out, if_neg (by rw [h]; simp)]
                  · rw [← HCF.out, if_pos h]
                  · rcases HUP.out with h3 | ⟨j, h3, h4, h5⟩
                    · exact absurd h3 h2
                    · rw [h3, Int.toNat_natCast]; exact h5
                case measure => simp [intOf]; omega
              · obtain ⟨n, hn⟩ : ∃ n : Nat, t = n := ⟨t.toNat, by omega⟩
                have HTN : Hid ((n : Int) = cfO st th act ev k) := by show _ = _; rw [← hn]; exact HI.out.2 htt
                subst hn
                have hn0 : decide ((n : Int) < 0) = false := by simp
                have hm0 : decide ((0 : Int) ≤ m) = true := by simp
                clear HI hact htt hs hs1 ht1 hf
                have HR3 : Hid _ := row_fr HR.out hfq (fun _ _ h => h)
                have hfr3 := hfr.thenr hfq (fun _ _ h => h)
                go_wp2_with fail
                go_loopw [9, 10] (fun vb vj w5 => ∃ (j : Nat) (b : Bool), j ≤ acc.length ∧ vj = .int .i64 j ∧ vb = .bool b ∧ Hid (b = (firstB (isAt acc n) j).isSome) ∧ Fr (fun _ => False) wq w5) (fun _ vj _ => acc.length - (intOf vj).toNat)
                case atStart => exact ⟨0, false, Nat.zero_le _, rfl, rfl, rfl, Fr.refl _ _⟩
                case round =>
                  obtain ⟨j, b, hj, rfl, rfl, HBQ, hf5⟩ := hrel
                  have hrow5 := row_fr HR3.out hf5 (fun _ _ h => h)
                  have hfr5 := hfr3.thenr hf5 (fun _ _ h => h)
                  rename World => w5
                  by_cases hjl : (j : Int) < acc.length
                  · have hjl' : j < acc.length := by omega
                    rw [HCV.out] at hrow5
                    obtain ⟨gr, cr, hvr, hcr⟩ := row_form hrow5 (by omega)
                    injection hvr with e1 e2 e3
                    subst e1
                    subst e3
                    obtain ⟨y, hy⟩ : ∃ y, acc[j]? = some y := ⟨_, List.getElem?_eq_getElem hjl'⟩
                    have hcell := (row_cell hrow5 j (.int .i64 (y : Int)) (by simp [inV, hy])).1
                    have HST : Hid ((firstB (isAt acc n) (j + 1)).isSome = ((firstB (isAt acc n) j).isSome || (y == n))) := by
                      show _ = _
                      have e4 : isAt acc n j = (y == n) := by unfold isAt; rw [hy]
                      simp only [firstB]
                      cases firstB (isAt acc n) j with
                      | some z => rfl
                      | none => rw [e4]; cases (y == n) <;> rfl
                    clear hy e2
                    by_cases hyn : y = n
                    · have yb : ((y : Int) == n) = true := by rw [hyn]; simp
                      have HB2 : Hid (true = (firstB (isAt acc n) (j + 1)).isSome) := by show _ = _; rw [HST.out, hyn]; simp
                      clear hyn HST
                      go_wp2_with fail
                      go_roundw
                      case rel => exact ⟨j + 1, true, by omega, by go_num, rfl, HB2, hf5⟩
                      case measure => simp [intOf]; omega
                    · have yb : ((y : Int) == n) = false := by rw [beq_eq_false_iff_ne]; omega
                      have HB2 : Hid (b = (firstB (isAt acc n) (j + 1)).isSome) := by
                        show _ = _
                        have : (y == n) = false := by simpa using hyn
                        rw [HST.out, this, HBQ.out]; simp
                      clear hyn HST
                      go_wp2_with fail
                      go_roundw
                      case rel => exact ⟨j + 1, b, by omega, by go_num, rfl, HB2, hf5⟩
                      case measure => simp [intOf]; omega
                  · have hje : j = acc.length := by omega
                    have HAM : Hid (amng acc n = b) := by show _ = _; unfold amng; rw [HBQ.out, hje]
                    clear hje
                    cases b with
                    | true =>
                      have HN2 : Hid (clK st th act ev (k + 1) = acc) := by show _ = _; rw [HN.out, if_neg (fun h => by rw [← HTN.out, Int.toNat_natCast, HAM.out] at h; simp at h)]
                      go_wp2_with fail
                      go_roundw
                      case rel => exact ⟨k + 1, _, by omega, by go_num, HCV.out.symm, by rw [HN2.out]; exact hrow5, hown, hfr5⟩
                      case measure => simp [intOf]; omega
                    | false =>
                      have HN2 : Hid (clK st th act ev (k + 1) = acc ++ [n]) := by
                        show _ = _
                        rw [HN.out, if_pos ⟨by rw [← HTN.out]; omega, by rw [← HTN.out, Int.toNat_natCast]; exact HAM.out⟩, ← HTN.out, Int.toNat_natCast]
                      have hrow6 := row_fr hrow5 (Fr.alloc (fun _ => False) w5 (.cells #[.int .i64 n] 3)) (fun _ _ h => h)
                      have hownR : ∀ j, (Value.slice ra acc.length rk).ownBlock = some j → w.heap.size ≤ j := by rw [← HCV.out]; exact hown
                      rw [HCV.out] at hrow6
                      clear HN HAM
                      go_wp2_with (at_builtin; go_must (refine wpList_append1 rfl _ _ _ rfl _ 1 8 elemInt _ acc.length (inV acc) rfl hrow6 ⟨w5.heap.size, 0, none⟩ 1 [.int .i64 (n : Int)] rfl rfl (by exact cells_new (Blk.new' _ _ _ _ (by simp))) (by intro u hu; simp at hu; subst hu; rfl) (by unfold maxLen; omega) (by omega) ?_); intro g cap w4 hrow7 hgrow hgo)
                      go_roundw
                      case rel =>
                        have hfr4 : Fr (fun _ => False) w w4 := (hfr5.allocr _).trans (Fr.grown (fun j => (Value.slice ra acc.length rk).ownBlock = some j) hgrow (fun _ e => e)) (fun _ _ h => h) (fun i hi e => by have := hownR i e; omega)
                        refine ⟨k + 1, _, by omega, by go_num, rfl, ?_, ?_, hfr4⟩
                        · rw [HN2.out]
                          simpa [inV] using hrow7
                        · intro j hj
                          simp only [Value.ownBlock, Option.some.injEq] at hj
                          subst hj
                          have hsz := hfr5.size
                          rcases hgo with h | h
                          · exact hownR _ h
                          · simp at h; omega
                      case measure => simp [intOf]; omega
        · have kb : ((x.kind : Int) != 0) = true := by rw [bne_iff_ne]; omega
          have HN : Hid (clK st th act ev (k + 1) = acc) := by show _ = _; rw [HS.out, cl1, if_neg (by rw [← HKD.out]; exact fun h => hkd h.1)]
          clear ha hkd HKD
          go_wp2_with fail
          go_roundw
          case rel => exact ⟨k + 1, _, by omega, by go_num, HCV.out.symm, by rw [HN.out]; exact HR.out, hown, hfr⟩
          case measure => simp [intOf]; omega
    · have hkn : k = M.c.sts.length := by omega
      obtain ⟨ra, rk, hcv⟩ := row_len hrow
      have HR : Hid _ := hrow
      have HCV : Hid _ := hcv
      rw [hcv]
      have HE : Hid (clL st th act ev = clK st th act ev k) := by show _ = _; unfold clL; rw [hkn, HL.out]
      clear hrow hcv hkn
      go_wp2_with fail
      go_ret
      refine ⟨_, rfl, hfr, ?_, ?_⟩
      · rw [HE.out, ← HCV.out]; exact HR.out
      · rw [← HCV.out]; exact hown
end Go.Proofs.YtmolmbeeoecnfaaGreatDoor
