/- Own work: PgV. -/
import Derived.Test.YtmolmbeeoecnfaaGreatDoorF46
import Derived.Test.YtmolmbeeoecnfaaGreatDoorF47
/- Own work: walks of the document's game: take. -/
namespace Go.Proofs.YtmolmbeeoecnfaaGreatDoor
open Go.RowKit Go.BigFrame
set_option linter.unusedVariables false
set_option linter.unusedSimpArgs false

theorem rmF_ml (st : List StP) (left : List Bool) : ∀ (k : Nat) (p : Py), (rmF st left k p).mm.length = p.mm.length
 | 0, p => rfl
 | k + 1, p => by
  rw [rmF, rmS]
  split
  ·split
   ·show ((rmF st left k p).mm.set _ _).length = _
    rw [List.length_set]; exact rmF_ml st left k p
   ·exact rmF_ml st left k p
  ·exact rmF_ml st left k p
def MkR (M : GM) (st : List StP) : Prop := ∀ (k : Nat) (x : StP), st[k]? = some x → x.wh = mkd M.c.trs x.name ⟨#[42]⟩ ∧ x.rem = (mkd M.c.trs x.name ⟨#[42]⟩ || mkd M.c.trs x.name ⟨#[126]⟩)
theorem scF_isB (st : List StP) (ts : Nat) : ∀ (f : Nat) (s : Int) (k : Nat), scF st ts f s = (k : Int) → isB st ts k = true
 | 0, s, k, h => by unfold scF at h; omega
 | f + 1, s, k, h => by
  unfold scF at h
  split at h
  ·omega
  ·split at h
   ·rename_i hc
    simp only [Bool.and_eq_true] at hc
    rw [h, Int.toNat_natCast] at hc
    exact hc.2
   ·exact scF_isB st ts f _ k h
theorem take_ch {st : List StP} {mm : List (List Bool)} {q : TrQ} {d : Nat} (hq0 : 0 ≤ q.ts) (hd : scOf st q = (d : Int)) : chP st mm d ⟨q.ts, q.mark, -1⟩ = (fiOf st q, ⟨q.ts, q.mark, -1⟩) := by
 have hb : isB st q.ts.toNat d = true := scF_isB st _ _ _ _ hd
 have hf : fiOf st q = inTo st d q.ts.toNat := by unfold fiOf; rw [if_neg (by omega), hd, Int.toNat_natCast]
 unfold chP
 rw [if_neg (by simp), if_neg (by show ¬ q.ts = -1; omega), if_pos hb, hf]

set_option maxRecDepth 100000 in
set_option maxHeartbeats 4000000 in
theorem dtake_any (w : World) (M : GM) (st : List StP) (p : Py) (t : TrR) (q : TrQ) (hD : PlD M st) (hMk : MkR M st) (hp : GmP w M st p) (hI : PyI st p) (hml : p.mm.length = 26) (hq : TqF M.c st t q) (hsc : ScOn st p.act q) (hmk : q.mark = 0 ∨ q.mark = 42 ∨ q.mark = 126) (hwh : q.mark = 42 → ∃ x, st[q.ts.toNat]? = some x ∧ x.wh = true) (hqa : q.acts.size ≤ 160) (hb : p.out.length + 6000000000 ≤ 70000000000000) :
    Calls Tryz.prog 37 #[.pointer (some ⟨M.gb, 0, none⟩), .agg t.cells.toArray] w fun e w' => e = .returned (.tuple #[]) ∧ (tkF st q p).out.length ≤ p.out.length + 5368714000 ∧ GmP w' M st (tkF st q p) ∧ Fr (OwnG M) w w' := by
  have HD : Hid _ := hD
  have HMK : Hid _ := hMk
  have HI : Hid _ := hI
  have HQ : Hid _ := hq
  have HL : Hid (M.c.sts.length = st.length) := hD.k.len
  have hlen := hD.t.wf.len
  have hl3 := hp.1.ct.l3
  have hTC : t.cells.toArray = #[.int .i64 t.from_, .int .u8 t.event.toNat, .string t.conds, .int .u8 t.target.toNat, .string t.mark, .string t.acts] := rfl
  have HTC : Hid _ := hTC
  rw [hTC]
  have hT := Blk.new w #[.int .i64 t.from_, .int .u8 t.event.toNat, .string t.conds, .int .u8 t.target.toNat, .string t.mark, .string t.acts] 96
  have hfa : Fr (fun _ => False) w (w.alloc (.cells #[.int .i64 t.from_, .int .u8 t.event.toNat, .string t.conds, .int .u8 t.target.toNat, .string t.mark, .string t.acts] 96)) := by (repeat (first | exact Fr.refl _ _ | assumption | refine Fr.drewNr ?_ _ | refine Fr.drewr ?_ | refine Fr.allocr ?_ _ | refine Fr.setCellr ?_ _ _ (by first | exact Or.inl rfl | (right; simp; done) | (right; simp; omega))))
  have hpa := hp.fr0 hfa
  have hltw : M.gb < w.heap.size ∧ M.ob < w.heap.size ∧ M.mb < w.heap.size := ⟨Blk.lt hp.1.blk, Blk.lt hp.1.bo, Blk.lt hp.1.bm⟩
  have HLV := dleaves_any _ M st p.act (meOf st p.mm) ⟨p.out.toArray⟩ hpa.2 hpa.1 hD.k hD.t t q hq
  rw [hTC] at HLV
  have HLV2 : Hid _ := HLV
  clear HLV hD hMk hI hq hTC
  go_enter Tryz.func37, Tryz.ntmps37
  go_wp2_with fail
  refine Calls.mono HLV2.out ?_
  rintro e w1 ⟨lb, rfl, hlb, hlo, hf1⟩
  have hT1 := Blk.fr hT hf1 (fun h => h)
  have hp1 := hpa.fr0 hf1
  have hfw1 := hfa.thenr hf1 (fun _ _ h => h)
  have hlo' : w.heap.size < lb := by simp at hlo; omega
  clear hT hpa hfa hf1 HLV2 hlo
  generalize hab : w.heap.size = ab at *
  have HAB : Hid _ := hab
  clear hab
  have hnT : ¬ OwnG M ab := by
    rintro (h | h | h)
    · omega
    · omega
    · omega
  have hnL : ¬ OwnG M lb := by
    rintro (h | h | h)
    · omega
    · omega
    · omega
  have HLF : Hid (∀ i, mem (lefB st p.act q) i = true → mem p.act i = true) := fun i hi => lef_sub st p.act HI.out.l q i hi
  obtain ⟨L, hLe⟩ : ∃ L, lefB st p.act q = L := ⟨_, rfl⟩
  have HLE : Hid _ := hLe
  rw [hLe] at hlb HLF
  clear hLe
  have HP1 : Hid (GmP w1 M st p) := hp1
  go_wp2_with fail
  -- the memories
  go_loopw [5, 6] (fun vi _ wr => ∃ k : Nat, k ≤ M.c.sts.length ∧ vi = .int .i64 k ∧ Hid (GmP wr M st (rmF st L k p)) ∧ Blk wr lb (bV (onOf M.c.sts.length L)).toArray 4 ∧ Blk wr ab #[.int .i64 t.from_, .int .u8 t.event.toNat, .string t.conds, .int .u8 t.target.toNat, .string t.mark, .string t.acts] 96 ∧ Fr (OwnG M) w wr) (fun vi _ _ => M.c.sts.length - (intOf vi).toNat)
  case atStart => exact ⟨0, Nat.zero_le _, rfl, HP1, hlb, hT1, hfw1.mono (fun _ _ h => h.elim)⟩
  case round =>
    obtain ⟨k, hk, rfl, HPk, hlk, hTk, hfk⟩ := hrel
    by_cases hlt : (k : Int) < M.c.sts.length
    · have hlt' : k < M.c.sts.length := by omega
      have hks : k < st.length := by rw [← HL.out]; exact hlt'
      have s1 : wr.cell? ⟨lb, k, none⟩ = some (.bool (mem L k)) := by rw [Blk.cell hlk, onOf_cell _ _ _ hlt']
      obtain ⟨x, hx⟩ : ∃ x, M.c.sts[k]? = some x := ⟨_, List.getElem?_eq_getElem hlt'⟩
      obtain ⟨y, hy⟩ : ∃ y, st[k]? = some y := ⟨_, List.getElem?_eq_getElem hks⟩
      have HS : Hid (rmF st L (k + 1) p = if mem L k = true ∧ y.rem = true then { rmF st L k p with mm := (rmF st L k p).mm.set k (rmM st y.wh (rmF st L k p).act k) } else rmF st L k p) := by
        show _ = _; rw [rmF, rmS, hy]
      have hra : (rmF st L k p).act = p.act := rmF_act st L k p
      rw [hra] at HS
      have hxn : x.name = y.name := by rw [(HD.out.k.en k x hx).2.2, nameAt_at hy]
      cases hLk : mem L k with
      | false =>
        have HS2 : Hid (rmF st L (k + 1) p = rmF st L k p) := by show _ = _; rw [HS.out, if_neg (by rw [hLk]; simp)]
        rw [hLk] at s1
        clear hLk HS
        go_wp2_with fail
        go_roundw
        case rel => exact ⟨k + 1, by omega, by go_num, by rw [HS2.out]; exact HPk, hlk, hTk, hfk⟩
        case measure => simp [intOf]; omega
      | true =>
        rw [hLk] at s1
        obtain ⟨m1, m2⟩ := HMK.out k y hy
        have hrc := rc_eq HD.out.t HI.out.g hy (HLF.out k hLk) m1 m2 (fun h => HD.out.r k y hy h)
        have hgk : Gm wr M (onOf M.c.sts.length p.act) (meOf st (rmF st L k p).mm) ⟨(rmF st L k p).out.toArray⟩ := by
          have := HPk.out.1; rwa [hra] at this
        have HREC := drecall_any wr M st p.act _ _ hgk HD.out.k HD.out.t k x hx
        rw [hxn] at HREC
        have hrs : (⟨(nmK st (rcB st p.act (mkd M.c.trs y.name ⟨#[42]⟩) (mkd M.c.trs y.name ⟨#[126]⟩) k) st.length).toArray⟩ : ByteArray) = nmT st (rcB st p.act (mkd M.c.trs y.name ⟨#[42]⟩) (mkd M.c.trs y.name ⟨#[126]⟩) k) := rfl
        rw [hrs] at HREC
        have HRE2 : Hid _ := HREC
        cases hrem : y.rem with
        | true =>
          obtain ⟨q1, q2⟩ := hrc.1 hrem
          rw [q1] at q2
          rw [q1] at HRE2
          have HS2 : Hid (rmF st L (k + 1) p = { rmF st L k p with mm := (rmF st L k p).mm.set k (rmM st y.wh p.act k) }) := by show _ = _; rw [HS.out, if_pos ⟨hLk, hrem⟩]
          have hme2 := meOf_set (st := st) (rmF st L k p).mm hks (by rw [rmF_ml, hml]; omega) (rmM st y.wh p.act k)
          have HME2 : Hid _ := hme2
          have hne : (nmT st (rmM st y.wh p.act k)).toList.isEmpty = false := by
            rw [List.isEmpty_eq_false_iff]
            intro h
            apply q2
            apply ByteArray.ext
            apply Array.toList_inj.1
            have h1 : (nmT st (rmM st y.wh p.act k)).toList = (nmT st (rmM st y.wh p.act k)).data.toList := ByteArray.toList_eq _
            rw [← h1, h]
          have hact := HPk.out.2
          clear HREC hrc q1 q2 hLk HS hrem m1 m2 hrs hme2
          generalize nmT st (rmM st y.wh p.act k) = R at *
          go_wp2_with fail
          refine Calls.mono HRE2.out ?_
          rintro e w3 ⟨rfl, hf3⟩
          have hg3 := hgk.fr0 hf3
          have c5 := hg3.c5
          have zm := Blk.frozen hg3.bm k
          have hml3 := Blk.lt hg3.bm
          have hmc : w3.cell? ⟨M.mb, k, none⟩ = some (.string (nmT st (memAt (rmF st L k p).mm k))) := by
            exact hg3.me' (meOf_at st _ hks)
          have hl3' := Blk.other (Blk.fr hlk hf3 (fun h => h)) ⟨M.mb, k, none⟩ (.string R) (by show lb ≠ M.mb; omega)
          have hT3' := Blk.other (Blk.fr hTk hf3 (fun h => h)) ⟨M.mb, k, none⟩ (.string R) (by show ab ≠ M.mb; omega)
          have hf3' := (hfk.thenr hf3 (fun _ _ h => h.elim)).setCellr ⟨M.mb, k, none⟩ (.string R) (Or.inl (Or.inr (Or.inr rfl)))
          have hg4 := hg3.setMe k (by have := HL.out; omega) R
          have HP4 : Hid (GmP (w3.setCell ⟨M.mb, k, none⟩ (.string R)) M st (rmF st L (k + 1) p)) := by
            show GmP _ M st _
            rw [HS2.out]
            refine ⟨?_, by show (rmF st L k p).act.length = 26; rw [hra]; exact HI.out.l⟩
            show Gm _ M (onOf M.c.sts.length (rmF st L k p).act) (meOf st ((rmF st L k p).mm.set k _)) _
            rw [hra, ← HME2.out]
            exact hg4
          go_wp2_with fail
          go_roundw
          case rel => exact ⟨k + 1, by omega, by go_num, HP4, hl3', hT3', hf3'⟩
          case measure => simp [intOf]; omega
        | false =>
          have q1 := hrc.2 hrem
          rw [q1] at HRE2
          have HS2 : Hid (rmF st L (k + 1) p = rmF st L k p) := by show _ = _; rw [HS.out, if_neg (by rw [hrem]; simp)]
          clear HREC hrc q1 hLk HS hrem m1 m2 hrs
          go_wp2_with fail
          refine Calls.mono HRE2.out ?_
          rintro e w3 ⟨rfl, hf3⟩
          have hl3' := Blk.fr hlk hf3 (fun h => h)
          have hT3' := Blk.fr hTk hf3 (fun h => h)
          have hf3' := hfk.thenr hf3 (fun _ _ h => h.elim)
          have HP4 : Hid (GmP w3 M st (rmF st L (k + 1) p)) := by
            show GmP _ M st _
            rw [HS2.out]
            exact GmP.fr0 HPk.out hf3
          go_wp2_with fail
          go_roundw
          case rel => exact ⟨k + 1, by omega, by go_num, HP4, hl3', hT3', hf3'⟩
          case measure => simp [intOf]; omega
    · have hkl : k = M.c.sts.length := by omega
      have hks : k = st.length := by rw [hkl]; exact HL.out
      have HPR : Hid (GmP wr M st (rmF st L st.length p)) := by rw [← hks]; exact HPk
      have HRO : Hid ((rmF st L st.length p).out = p.out) := rmF_out st L st.length p
      have HRL : Hid ((rmF st L st.length p).mm.length = 26) := by show _ = _; rw [rmF_ml]; exact hml
      obtain ⟨R, hR⟩ : ∃ R, rmF st L st.length p = R := ⟨_, rfl⟩
      have HRE : Hid _ := hR
      rw [hR] at HPR HRO HRL
      clear hR hkl hks HPk
      have HLR : Hid (∃ z : Py, GmP wr M st z ∧ z.mm = R.mm ∧ lvF st L st.length R = lvF st L M.c.sts.length z ∧ z.out.length + 160 * M.c.sts.length ≤ p.out.length + 160 * st.length) := ⟨R, HPR.out, rfl, by rw [HL.out], by rw [HL.out, HRO.out]; omega⟩
      go_wp2_with fail
      -- the states that are left
      go_loopg [7] 27 (fun g vi wq => ∃ (j : Nat) (v : Int) (z : Py), j ≤ M.c.sts.length ∧ v = (j : Int) - 1 ∧ vi = .int .i64 v ∧ Hid (GmP wq M st z) ∧ Hid (z.mm = R.mm) ∧ Hid (lvF st L st.length R = lvF st L j z) ∧ Hid (z.out.length + 160 * j ≤ p.out.length + 160 * st.length) ∧ Blk wq lb (bV (onOf M.c.sts.length L)).toArray 4 ∧ Blk wq ab #[.int .i64 t.from_, .int .u8 t.event.toNat, .string t.conds, .int .u8 t.target.toNat, .string t.mark, .string t.acts] 96 ∧ Fr (OwnG M) w wq ∧ j < g)
      case atStart =>
        obtain ⟨z, z1, z2, z3, z4⟩ := HLR.out
        exact ⟨M.c.sts.length, (M.c.sts.length : Int) - 1, z, Nat.le_refl _, rfl, by go_num, z1, z2, z3, z4, hlk, hTk, hfk, by have := HL.out; omega⟩
      case round =>
        obtain ⟨j, v, z, hj, hv, rfl, HPz, HZM, HZL, HZO, hlz, hTz, hfz, hjg⟩ := hrel
        cases j with
        | succ i =>
          have hvi : v = (i : Int) := by omega
          subst hvi
          clear hv
          have hil : i < M.c.sts.length := by omega
          have his : i < st.length := by rw [← HL.out]; exact hil
          have s1 : wr.cell? ⟨lb, i, none⟩ = some (.bool (mem L i)) := by rw [Blk.cell hlz, onOf_cell _ _ _ hil]
          obtain ⟨x, hx⟩ : ∃ x, M.c.sts[i]? = some x := ⟨_, List.getElem?_eq_getElem hil⟩
          obtain ⟨y, hy⟩ : ∃ y, st[i]? = some y := ⟨_, List.getElem?_eq_getElem his⟩
          have hlv := (HD.out.e i x y hx hy).2
          have hys := (HD.out.z y (List.mem_of_getElem? hy)).2
          have HLY : Hid (leaveAt st i = y.leave) := leaveAt_at hy
          cases hLi : mem L i with
          | false =>
            rw [hLi] at s1
            have HZ2 : Hid (lvF st L st.length R = lvF st L i z) := by show _ = _; rw [HZL.out, lvF, hLi]; rfl
            have HZ3 : Hid (z.out.length + 160 * i ≤ p.out.length + 160 * st.length) := by have := HZO.out; show _ ≤ _; omega
            clear hLi hx hy hlv
            go_wp2_with fail
            go_roundg (i + 1)
            case measure => omega
            case rel => exact ⟨i, (i : Int) - 1, z, by omega, rfl, by go_num, HPz, HZM, HZ2, HZ3, hlz, hTz, hfz, by omega⟩
          | true =>
            rw [hLi] at s1
            have HZ2 : Hid (lvF st L st.length R = lvF st L i { z with act := z.act.set i false, out := z.out ++ bls y.leave }) := by show _ = _; rw [HZL.out, lvF, hLi, HLY.out]; rfl
            have HZ3 : Hid (({ z with act := z.act.set i false, out := z.out ++ bls y.leave } : Py).out.length + 160 * i ≤ p.out.length + 160 * st.length) := by
              have := HZO.out
              show (z.out ++ bls y.leave).length + _ ≤ _
              rw [List.length_append, bls_len]; omega
            obtain ⟨c0, c1⟩ := HPz.out.1.cp
            have c4 := HPz.out.1.c4
            have c6 := HPz.out.1.c6
            obtain ⟨-, -, -, -, -, -, -, x7⟩ := st8 HPz.out.1.ct.r3 hx
            rw [hlv] at x7
            have z6 := Blk.frozen HPz.out.1.blk 6
            have hact := HPz.out.2
            have hosz : (⟨z.out.toArray⟩ : ByteArray).size ≤ 70000000000000 := by
              have : (⟨z.out.toArray⟩ : ByteArray).size = z.out.length := by show z.out.toArray.size = _; simp
              have := HZO.out; omega
            have hgA : Gm ((wr.setCell ⟨M.gb, 6, none⟩ (.string (⟨z.out.toArray⟩ ++ y.leave))).drew) M (onOf M.c.sts.length z.act) (meOf st z.mm) (⟨z.out.toArray⟩ ++ y.leave) := (HPz.out.1.setOut _).fr0 (by (repeat (first | exact Fr.refl _ _ | assumption | refine Fr.drewNr ?_ _ | refine Fr.drewr ?_ | refine Fr.allocr ?_ _ | refine Fr.setCellr ?_ _ _ (by first | exact Or.inl rfl | (right; simp; done) | (right; simp; omega)))))
            have hlA := Blk.drew (Blk.other hlz ⟨M.gb, 6, none⟩ (.string (⟨z.out.toArray⟩ ++ y.leave)) (by show lb ≠ M.gb; omega))
            have hTA := Blk.drew (Blk.other hTz ⟨M.gb, 6, none⟩ (.string (⟨z.out.toArray⟩ ++ y.leave)) (by show ab ≠ M.gb; omega))
            have hfA : Fr (OwnG M) w ((wr.setCell ⟨M.gb, 6, none⟩ (.string (⟨z.out.toArray⟩ ++ y.leave))).drew) := (hfz.setCellr ⟨M.gb, 6, none⟩ _ (Or.inl (Or.inl rfl))).drewr
            clear hLi hy
            go_wp2_with fail
            go_region
            all_goals
              clear c0 c1 c4 c6 x7 z6
              generalize (wr.setCell ⟨M.gb, 6, none⟩ (.string (⟨z.out.toArray⟩ ++ y.leave))).drew = W1 at hgA hlA hTA hfA ⊢
              have c4 := hgA.c4
              have fs := hgA.on' hil
              have zs := Blk.frozen hgA.bo i
              have hob := Blk.lt hgA.bo
              have hg2 := hgA.setOn i hil false
              have hl2 := Blk.other hlA ⟨M.ob, i, none⟩ (.bool false) (by show lb ≠ M.ob; omega)
              have hT2 := Blk.other hTA ⟨M.ob, i, none⟩ (.bool false) (by show ab ≠ M.ob; omega)
              have hf2 := hfA.setCellr ⟨M.ob, i, none⟩ (.bool false) (Or.inl (Or.inr (Or.inl rfl)))
              rw [onOf_set _ _ _ _ hil (by rw [hact]; have := HL.out; omega), out_app] at hg2
              have HP2 : Hid (GmP (W1.setCell ⟨M.ob, i, none⟩ (.bool false)) M st { z with act := z.act.set i false, out := z.out ++ bls y.leave }) := ⟨hg2, by show (z.act.set i false).length = 26; rw [List.length_set]; exact hact⟩
              clear hg2
              go_wp2_with fail
              go_roundg (i + 1)
              case measure => omega
              case rel => exact ⟨i, (i : Int) - 1, { z with act := z.act.set i false, out := z.out ++ bls y.leave }, by omega, rfl, by go_num, HP2, HZM, HZ2, HZ3, hl2, hT2, hf2, by omega⟩
        | zero =>
          have hvi : v = -1 := by omega
          subst hvi
          clear hv
          have HZ2 : Hid (lvF st L st.length R = z) := by show _ = _; rw [HZL.out, lvF]
          have HZ3 : Hid (z.out.length ≤ p.out.length + 160 * st.length) := by have := HZO.out; show _ ≤ _; omega
          have HZI : Hid (MemI st z.mm) := by show MemI st z.mm; rw [HZM.out, ← HRE.out]; exact memI_rm L st.length p HI.out.l HI.out.g HLF.out HI.out.m
          obtain ⟨⟨hqo, hq0, hq1⟩, -, hqx⟩ := HQ.out.r
          have hqm := HQ.out.mk'
          have hqc := HQ.out.ac
          have HIX : Hid (idx M.c.sts t.target = q.ts) := hqx
          have HTK : Hid (tkF st q p = enF st 26 (fiOf st q) ⟨q.ts, q.mark, -1⟩ { z with out := z.out ++ bls t.acts }) := by
            show _ = _
            unfold tkF
            rw [HLE.out, HRE.out, HZ2.out, hqc]
          have HAE : Hid (∀ s, AmE st z.mm ⟨q.ts, q.mark, -1⟩ s) := fun s => ⟨⟨⟨by show -1 ≤ q.ts; omega, hq1, Int.le_refl _, by show (-1 : Int) < _; omega⟩, fun h => absurd rfl h, hmk⟩, fun h => absurd rfl h, hwh⟩
          have hta : t.acts.size ≤ 160 := by rw [hqc]; exact hqa
          have c6 := HPz.out.1.c6
          have z6 := Blk.frozen HPz.out.1.blk 6
          have a5 : wr.cell? ⟨ab, 5, none⟩ = some (.string t.acts) := by rw [Blk.cell hTz]; rfl
          have hosz : (⟨z.out.toArray⟩ : ByteArray).size ≤ 70000000000000 := by
            have : (⟨z.out.toArray⟩ : ByteArray).size = z.out.length := by show z.out.toArray.size = _; simp
            have := HZ3.out; omega
          have hgA : Gm ((wr.setCell ⟨M.gb, 6, none⟩ (.string (⟨z.out.toArray⟩ ++ t.acts))).drew) M (onOf M.c.sts.length z.act) (meOf st z.mm) (⟨z.out.toArray⟩ ++ t.acts) := (HPz.out.1.setOut _).fr0 (by (repeat (first | exact Fr.refl _ _ | assumption | refine Fr.drewNr ?_ _ | refine Fr.drewr ?_ | refine Fr.allocr ?_ _ | refine Fr.setCellr ?_ _ _ (by first | exact Or.inl rfl | (right; simp; done) | (right; simp; omega)))))
          have hTA := Blk.drew (Blk.other hTz ⟨M.gb, 6, none⟩ (.string (⟨z.out.toArray⟩ ++ t.acts)) (by show ab ≠ M.gb; omega))
          have hfA : Fr (OwnG M) w ((wr.setCell ⟨M.gb, 6, none⟩ (.string (⟨z.out.toArray⟩ ++ t.acts))).drew) := (hfz.setCellr ⟨M.gb, 6, none⟩ _ (Or.inl (Or.inl rfl))).drewr
          have hact := HPz.out.2
          have HQM : Hid (t.mark = mkStr q.mark) := hqm
          clear hqx hqc hqm
          go_wp2_with fail
          go_region
          all_goals
            clear c6 z6 a5
            generalize (wr.setCell ⟨M.gb, 6, none⟩ (.string (⟨z.out.toArray⟩ ++ t.acts))).drew = W1 at hgA hTA hfA ⊢
            rw [out_app] at hgA
            have HP1 : Hid (GmP W1 M st { z with out := z.out ++ bls t.acts }) := ⟨hgA, hact⟩
            have hT2 := Blk.drew hTA
            have hf2 := hfA.drewr
            have a3 : W1.cell? ⟨ab, 3, none⟩ = some (.int .u8 t.target.toNat) := by rw [Blk.cell hTA]; rfl
            have HP2 : Hid (GmP W1.drew M st { z with out := z.out ++ bls t.acts }) := HP1.out.fr0 (by (repeat (first | exact Fr.refl _ _ | assumption | refine Fr.drewNr ?_ _ | refine Fr.drewr ?_ | refine Fr.allocr ?_ _ | refine Fr.setCellr ?_ _ _ (by first | exact Or.inl rfl | (right; simp; done) | (right; simp; omega)))))
            have HIX2 : Hid (∀ w', Fr (fun _ => False) W1 w' → ∀ c : UInt8, Calls Tryz.prog 53 #[.pointer (some ⟨M.gb, 0, none⟩), .int .u8 c.toNat] w' fun e w'' => e = .returned (.int .i64 (idx M.c.sts c)) ∧ w'' = w') := fun w' f c => index_any w' M.gb 0 _ M.c.sts c ((HP1.out.fr0 f).1.cp.c0) ((HP1.out.fr0 f).1.ct.r3) (by omega)
            clear hgA
            go_wp2_with fail
            go_region_with (go_at_call 53; refine Calls.mono (HIX2.out _ ?_ _) ?_; (repeat (first | exact Fr.refl _ _ | assumption | refine Fr.drewNr ?_ _ | refine Fr.drewr ?_ | refine Fr.allocr ?_ _ | refine Fr.setCellr ?_ _ _ (by first | exact Or.inl rfl | (right; simp; done) | (right; simp; omega)))); rintro e w5 ⟨rfl, rfl⟩)
            all_goals
              rw [HIX.out]
              clear a3 HIX2 HP1 hTA hfA
              generalize W1.drew = W2 at *
              have HSC2 : Hid (∀ w', Fr (fun _ => False) W2 w' → Calls Tryz.prog 58 #[.pointer (some ⟨M.gb, 0, none⟩), .agg #[.int .i64 t.from_, .int .u8 t.event.toNat, .string t.conds, .int .u8 t.target.toNat, .string t.mark, .string t.acts]] w' fun e w'' => e = .returned (.int .i64 (scOf st q)) ∧ Fr (fun _ => False) w' w'') := fun w' f => by
                have h1 := dscope_any w' M.c st M.gb HD.out.k HD.out.t (HP2.out.fr0 f).1.ct (HP2.out.fr0 f).1.cp t q HQ.out.r
                rwa [HTC.out] at h1
              obtain ⟨t0, t1, t2, t3, t4, t5⟩ : W2.cell? ⟨ab, 0, none⟩ = some (.int .i64 t.from_) ∧ W2.cell? ⟨ab, 1, none⟩ = some (.int .u8 t.event.toNat) ∧ W2.cell? ⟨ab, 2, none⟩ = some (.string t.conds) ∧ W2.cell? ⟨ab, 3, none⟩ = some (.int .u8 t.target.toNat) ∧ W2.cell? ⟨ab, 4, none⟩ = some (.string t.mark) ∧ W2.cell? ⟨ab, 5, none⟩ = some (.string t.acts) := by
                refine ⟨?_, ?_, ?_, ?_, ?_, ?_⟩ <;> (rw [Blk.cell hT2]; rfl)
              go_wp2_with fail
              go_region_with (go_at_call 58; refine Calls.mono (HSC2.out _ ?_) ?_; (repeat (first | exact Fr.refl _ _ | assumption | refine Fr.drewNr ?_ _ | refine Fr.drewr ?_ | refine Fr.allocr ?_ _ | refine Fr.setCellr ?_ _ _ (by first | exact Or.inl rfl | (right; simp; done) | (right; simp; omega)))); rintro e w3 ⟨rfl, hf3⟩)
              all_goals
                have hf23 : Fr (fun _ => False) W2 w3 := (by (repeat (first | exact Fr.refl _ _ | assumption | refine Fr.drewNr ?_ _ | refine Fr.drewr ?_ | refine Fr.allocr ?_ _ | refine Fr.setCellr ?_ _ _ (by first | exact Or.inl rfl | (right; simp; done) | (right; simp; omega)))) : Fr (fun _ => False) W2 W2.drew).thenr hf3 (fun _ _ h => h)
                have hT3 := Blk.fr hT2 hf23 (fun h => h)
                have HP3 : Hid (GmP w3 M st { z with out := z.out ++ bls t.acts }) := HP2.out.fr0 hf23
                have hfw3 := hf2.thenr hf23 (fun _ _ h => h.elim)
                clear t0 t1 t2 t3 t4 t5 hT2 hf3 HP2 HSC2 hf2 hf23
                have t4 : w3.cell? ⟨ab, 4, none⟩ = some (.string (mkStr q.mark)) := by rw [Blk.cell hT3, ← HQM.out]; rfl
                have HAQ : Hid (aimA st z.mm ⟨q.ts, q.mark, -1⟩ = #[.int .i64 q.ts, .string (mkStr q.mark), .string ⟨#[]⟩]) := rfl
                have HEN : Hid (∀ w', Fr (fun _ => False) w3 w' → Calls Tryz.prog 35 #[.pointer (some ⟨M.gb, 0, none⟩), .int .i64 (fiOf st q), .agg #[.int .i64 q.ts, .string (mkStr q.mark), .string ⟨#[]⟩]] w' fun e w'' => e = .returned (.tuple #[]) ∧ (tkF st q p).out.length ≤ p.out.length + 5368714000 ∧ GmP w'' M st (tkF st q p) ∧ Fr (OwnG M) w' w'') := fun w' f => by
                  have h25 : 160 * 2 ^ (25 - fiOf st q) ≤ 5368709120 := Nat.le_trans (Nat.mul_le_mul_left 160 (pow_mono (Nat.zero_le _))) (by decide)
                  have h := denter_any M st HD.out 26 w' { z with out := z.out ++ bls t.acts } (fiOf st q) ⟨q.ts, q.mark, -1⟩ (HP3.out.fr0 f) (fiOf_in st HD.out.t.wf q ⟨hqo, hq0, hq1⟩) (by omega) (HAE.out _) HZI.out (by
                    show (z.out ++ bls t.acts).length + _ ≤ _
                    rw [List.length_append, bls_len]
                    have := HZ3.out; omega)
                  rw [HAQ.out] at h
                  refine h.mono ?_
                  rintro e w'' ⟨rfl, h1, h2, h3⟩
                  rw [HTK.out]
                  refine ⟨rfl, ?_, h2, h3⟩
                  have h8 : ({ z with out := z.out ++ bls t.acts } : Py).out.length = z.out.length + t.acts.size := by show (z.out ++ bls t.acts).length = _; rw [List.length_append, bls_len]
                  have := HZ3.out
                  omega
                by_cases hd : scOf st q = -1
                · rw [hd]
                  have HF0 : Hid (fiOf st q = 0) := by show _ = _; unfold fiOf; rw [if_pos hd]
                  rw [HF0.out] at HEN
                  clear hd
                  go_wp2_with fail
                  refine Calls.mono (HEN.out _ ?_) ?_
                  · (repeat (first | exact Fr.refl _ _ | assumption | refine Fr.drewNr ?_ _ | refine Fr.drewr ?_ | refine Fr.allocr ?_ _ | refine Fr.setCellr ?_ _ _ (by first | exact Or.inl rfl | (right; simp; done) | (right; simp; omega))))
                  rintro e w6 ⟨rfl, ho6, hp6, hf6⟩
                  have HO6 : Hid _ := ho6
                  clear ho6
                  have hf7 := (hfw3.allocr _).thenr hf6 (fun _ _ h => h)
                  have HP6 : Hid _ := hp6
                  clear hp6
                  go_wp2_with fail
                  (try simp only [Exit.inBlock, Exit.then]); refine bodyPost_ret (results_none rfl _ _ _) rfl ?_
                  exact ⟨rfl, HO6.out, HP6.out, hf7⟩
                · obtain ⟨d, hd2, hd3, hd4⟩ : ∃ d : Nat, scOf st q = (d : Int) ∧ d < st.length ∧ kindAt st d = 1 := by
                    rcases hsc with h | ⟨d, h, h2, h3, -⟩
                    · exact absurd h hd
                    · exact ⟨d, h, h2, h3⟩
                  rw [hd2]
                  have HCH : Hid (∀ w', Fr (fun _ => False) w3 w' → Calls Tryz.prog 54 #[.pointer (some ⟨M.gb, 0, none⟩), .int .i64 d, .agg #[.int .i64 q.ts, .string (mkStr q.mark), .string ⟨#[]⟩]] w' fun e w'' => e = .returned (.tuple #[.int .i64 (fiOf st q), .agg #[.int .i64 q.ts, .string (mkStr q.mark), .string ⟨#[]⟩]]) ∧ Fr (fun _ => False) w' w'') := fun w' f => by
                    obtain ⟨q1, q2⟩ := ch_ask HD.out.t HD.out.r HZI.out hd3 hd4 (HAE.out d)
                    have h9 := dchoose_any w' M st z.mm _ _ (HP3.out.fr0 f).1 HD.out.k HD.out.t HD.out.n d ⟨q.ts, q.mark, -1⟩ hd3 (HAE.out d).i q1 q2
                    rw [HAQ.out] at h9
                    unfold ChR at h9
                    rw [take_ch hq0 hd2] at h9
                    rw [HAQ.out] at h9
                    exact h9
                  clear hd hd2
                  go_wp2_with fail
                  refine Calls.mono (HCH.out _ ?_) ?_
                  · (repeat (first | exact Fr.refl _ _ | assumption | refine Fr.drewNr ?_ _ | refine Fr.drewr ?_ | refine Fr.allocr ?_ _ | refine Fr.setCellr ?_ _ _ (by first | exact Or.inl rfl | (right; simp; done) | (right; simp; omega))))
                  rintro e w5 ⟨rfl, hf5⟩
                  have hf35 : Fr (fun _ => False) w3 w5 := (by (repeat (first | exact Fr.refl _ _ | assumption | refine Fr.drewNr ?_ _ | refine Fr.drewr ?_ | refine Fr.allocr ?_ _ | refine Fr.setCellr ?_ _ _ (by first | exact Or.inl rfl | (right; simp; done) | (right; simp; omega)))) : Fr (fun _ => False) w3 (w3.alloc _)).thenr hf5 (fun _ _ h => h)
                  have hfw5 := hfw3.thenr hf35 (fun _ _ h => h.elim)
                  clear hf5
                  go_wp2_with fail
                  refine Calls.mono (HEN.out _ ?_) ?_
                  · exact hf35.thenr (by (repeat (first | exact Fr.refl _ _ | assumption | refine Fr.drewNr ?_ _ | refine Fr.drewr ?_ | refine Fr.allocr ?_ _ | refine Fr.setCellr ?_ _ _ (by first | exact Or.inl rfl | (right; simp; done) | (right; simp; omega))))) (fun _ _ h => h)
                  rintro e w6 ⟨rfl, ho6, hp6, hf6⟩
                  have HO6 : Hid _ := ho6
                  clear ho6
                  have hf7 := (hfw5.allocr _).thenr hf6 (fun _ _ h => h)
                  have HP6 : Hid _ := hp6
                  clear hp6
                  go_wp2_with fail
                  go_end0
                  exact ⟨rfl, HO6.out, HP6.out, hf7⟩
end Go.Proofs.YtmolmbeeoecnfaaGreatDoor
