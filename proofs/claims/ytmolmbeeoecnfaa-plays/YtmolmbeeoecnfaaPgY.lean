/- Own work: walks of the document's game: Text. -/
import Derived.Test.YtmolmbeeoecnfaaPgV
namespace Go.Proofs.Ytmolmbeeoecnfaa
open Go.RowKit Go.BigFrame
set_option linter.unusedVariables false
set_option linter.unusedSimpArgs false

theorem emp_iff' (l : List Bool) : emp l = true ↔ ∀ i, i < 26 → mem l i = false := by
  unfold emp
  simp
theorem memT_emp {st : List StP} {mm : List (List Bool)} (ht : Tr st) (hr : ∀ (k : Nat) (x : StP), st[k]? = some x → x.rem = true → x.kind = 1) (hM : MemI st mm) {k : Nat} (hk : k < st.length) : (emp (memAt mm k) = true → nmT st (memAt mm k) = ⟨#[]⟩) ∧ (emp (memAt mm k) = false → nmT st (memAt mm k) ≠ ⟨#[]⟩) := by
  have hl := ht.wf.len
  refine ⟨fun h => nmT_0 (fun i hi => (emp_iff' _).1 h i (by omega)), fun h => ?_⟩
  obtain ⟨c, c1, c2⟩ := memI_ch ht hr hM hk h
  exact nmT_ne c1.1 c2
theorem ret_strT {l m : List UInt8} (h : l = m) : Ending.returned (Value.string ⟨l.toArray⟩) = .returned (.string ⟨m.toArray⟩) := by rw [h]
theorem ret_bs2 {l m r : List UInt8} {c : UInt8} (h : l = (m ++ [47, c]) ++ r) : Value.string ((((⟨m.toArray⟩ : ByteArray) ++ ⟨#[47]⟩) ++ ⟨#[c]⟩) ++ ⟨r.toArray⟩) = .string ⟨l.toArray⟩ := by
  congr 1
  apply ByteArray.ext
  rw [ByteArray.data_append, ByteArray.data_append, ByteArray.data_append]
  apply Array.toList_inj.1
  rw [h]; simp

set_option maxRecDepth 100000 in
set_option maxHeartbeats 2000000 in
theorem dtext_any (w : World) (M : GM) (st : List StP) (p : Py) (hD : PlD M st) (hp : GmP w M st p) (hM : MemI st p.mm) :
    Calls Try.prog 36 #[.pointer (some ⟨M.gb, 0, none⟩)] w fun e w' => e = .returned (.string ⟨(stT st p.act p.mm st.length).toArray⟩) ∧ Fr (fun _ => False) w w' := by
  have HD : Hid _ := hD
  have HM : Hid _ := hM
  have HL : Hid (M.c.sts.length = st.length) := hD.k.len
  have hl3 := hp.1.ct.l3
  have HP : Hid (GmP w M st p) := hp
  clear hD hM hp
  go_enter Try.func36, Try.ntmps36
  go_wp2_with fail
  go_loopw [3, 4] (fun vm vk wr => ∃ k : Nat, k ≤ M.c.sts.length ∧ vk = .int .i64 k ∧ vm = .string ⟨(nmK st p.act k).toArray⟩ ∧ Fr (fun _ => False) w wr) (fun _ vk _ => M.c.sts.length - (intOf vk).toNat)
  case atStart => exact ⟨0, Nat.zero_le _, by go_num, rfl, by (repeat (first | exact Fr.refl _ _ | assumption | refine Fr.drewNr ?_ _ | refine Fr.drewr ?_ | refine Fr.allocr ?_ _ | refine Fr.setCellr ?_ _ _ (by first | exact Or.inl rfl | (right; simp; done) | (right; simp; omega))))⟩
  case round =>
    obtain ⟨k, hk, rfl, rfl, hfr⟩ := hrel
    have hgr := (HP.out.fr0 hfr).1
    have c4 := hgr.c4
    obtain ⟨c0, c1⟩ := hgr.cp
    have hsz := nmK_len st p.act k
    have hsz2 : (⟨(nmK st p.act k).toArray⟩ : ByteArray).size = (nmK st p.act k).length := by show (nmK st p.act k).toArray.size = _; simp
    by_cases hlt : (k : Int) < M.c.sts.length
    · have hlt' : k < M.c.sts.length := by omega
      have fk := hgr.on' hlt'
      rw [onOf_mem _ _ _ hlt'] at fk
      obtain ⟨y, hy⟩ : ∃ y, M.c.sts[k]? = some y := ⟨_, List.getElem?_eq_getElem hlt'⟩
      obtain ⟨y0, -, -, -, -, -, -, -⟩ := st8 hgr.ct.r3 hy
      have HNM : Hid (y.name = nameAt st k) := (HD.out.k.en k y hy).2.2
      clear hy
      cases ha : mem p.act k with
      | false =>
        rw [ha] at fk
        have HB : Hid (nmK st p.act (k + 1) = nmK st p.act k) := by show _ = _; rw [nmK, if_neg (by rw [ha]; simp)]
        clear ha
        generalize nmK st p.act k = E at *
        go_wp2_with fail
        go_roundw
        case rel => exact ⟨k + 1, by omega, by go_num, by rw [HB.out], hfr⟩
        case measure => simp [intOf]; omega
      | true =>
        rw [ha] at fk
        have HB : Hid (nmK st p.act (k + 1) = nmK st p.act k ++ [y.name]) := by show _ = _; rw [nmK, if_pos ha, ← HNM.out]
        clear ha
        generalize nmK st p.act k = E at *
        go_wp2_with fail
        go_roundw
        case rel => exact ⟨k + 1, by omega, by go_num, ret_bs HB.out, hfr.allocr _⟩
        case measure => simp [intOf]; omega
    · have hkl : k = M.c.sts.length := by omega
      have HS0 : Hid (nmK st p.act k = stT st p.act p.mm 0) := by show _ = _; rw [hkl, HL.out, stT]
      rw [HS0.out] at hsz2 hsz ⊢
      clear hkl
      go_wp2_with fail
      clear c0 c1 c4 hgr hsz hsz2
      go_loopw [3, 5] (fun vm vk wq => ∃ j : Nat, j ≤ M.c.sts.length ∧ vk = .int .i64 j ∧ vm = .string ⟨(stT st p.act p.mm j).toArray⟩ ∧ Fr (fun _ => False) w wq) (fun _ vk _ => M.c.sts.length - (intOf vk).toNat)
      case atStart => exact ⟨0, Nat.zero_le _, by go_num, rfl, hfr⟩
      case round =>
        obtain ⟨j, hj, rfl, rfl, hfq⟩ := hrel
        have hgr := (HP.out.fr0 hfq).1
        have c4 := hgr.c4
        have c5 := hgr.c5
        obtain ⟨c0, c1⟩ := hgr.cp
        have hsz := stT_len st p.act p.mm (by rw [← HL.out]; exact hl3) j
        have hsz2 : (⟨(stT st p.act p.mm j).toArray⟩ : ByteArray).size = (stT st p.act p.mm j).length := by show (stT st p.act p.mm j).toArray.size = _; simp
        by_cases hlt : (j : Int) < M.c.sts.length
        · have hlt' : j < M.c.sts.length := by omega
          have hjs : j < st.length := by rw [← HL.out]; exact hlt'
          obtain ⟨y, hy⟩ : ∃ y, M.c.sts[j]? = some y := ⟨_, List.getElem?_eq_getElem hlt'⟩
          obtain ⟨y0, -, -, -, -, -, -, -⟩ := st8 hgr.ct.r3 hy
          have HNM : Hid (y.name = nameAt st j) := (HD.out.k.en j y hy).2.2
          obtain ⟨m1, m2⟩ := memT_emp HD.out.t HD.out.r HM.out hjs
          have mc : wr.cell? ⟨M.mb, j, none⟩ = some (.string (nmT st (memAt p.mm j))) := by
            rw [Blk.cell hgr.bm]; simp [meOf_at st _ hjs]
          clear hy
          cases he : emp (memAt p.mm j) with
          | true =>
            rw [m1 he] at mc
            have HB : Hid (stT st p.act p.mm (j + 1) = stT st p.act p.mm j) := by show _ = _; rw [stT, if_pos he]
            clear he m1 m2
            generalize stT st p.act p.mm j = E at *
            go_wp2_with fail
            go_roundw
            case rel => exact ⟨j + 1, by omega, by go_num, by rw [HB.out], hfq⟩
            case measure => simp [intOf]; omega
          | false =>
            have hne := m2 he
            have hms := nmT_sz st (memAt p.mm j)
            have hmbl := Blk.lt hgr.bm
            have hgbl := Blk.lt hgr.blk
            have hst26 : st.length ≤ 26 := by rw [← HL.out]; exact hl3
            have HB : Hid (stT st p.act p.mm (j + 1) = (stT st p.act p.mm j ++ [47, y.name]) ++ nmK st (memAt p.mm j) st.length) := by show _ = _; rw [stT, if_neg (by rw [he]; simp), ← HNM.out]
            have HRT : Hid (nmT st (memAt p.mm j) = ⟨(nmK st (memAt p.mm j) st.length).toArray⟩) := rfl
            have hnel : (nmT st (memAt p.mm j)).toList.isEmpty = false := by
              rw [List.isEmpty_eq_false_iff]
              intro h
              apply hne
              apply ByteArray.ext
              apply Array.toList_inj.1
              have h1 : (nmT st (memAt p.mm j)).toList = (nmT st (memAt p.mm j)).data.toList := ByteArray.toList_eq _
              rw [← h1, h]
            clear he m1 m2
            have HV : Hid (∀ E : List UInt8, E = stT st p.act p.mm j → Value.string ((((⟨E.toArray⟩ : ByteArray) ++ ⟨#[47]⟩) ++ ⟨#[y.name]⟩) ++ nmT st (memAt p.mm j)) = .string ⟨(stT st p.act p.mm (j + 1)).toArray⟩) := fun E hE => by
              rw [HRT.out]; exact ret_bs2 (by rw [HB.out, hE])
            have HV1 : Hid _ := HV.out _ rfl
            clear HV HB HRT
            generalize nmT st (memAt p.mm j) = R at *
            generalize stT st p.act p.mm j = E at *
            have hcv0 : ((wr.alloc (.cells #[.int .u8 y.name.toNat] 5)).drew).cell? ⟨wr.heap.size, 0, none⟩ = some (.int .u8 y.name.toNat) := by rw [Blk.cell (Blk.drew (Blk.new wr #[.int .u8 y.name.toNat] 5))]; rfl
            have hcv : (convert 43 9 (.slice (some ⟨wr.heap.size, 0, none⟩) 1 1)).run Try.prog ((wr.alloc (.cells #[.int .u8 y.name.toNat] 5)).drew) = .ok (.string ⟨#[y.name]⟩) ((wr.alloc (.cells #[.int .u8 y.name.toNat] 5)).drew) :=
              run_convert_bytes_back (P := Try.prog) _ 43 9 5 ⟨wr.heap.size, 0, none⟩ 1 [y.name] Try.underlying43 Try.underlying5 Try.underlying9 (fun j hj => by
                have : j = 0 := by simp at hj; omega
                subst this
                exact hcv0)
            go_wp2_with fail
            go_region
            all_goals
              go_wp2_with fail
              go_roundw
              case rel => exact ⟨j + 1, by omega, by go_num, HV1.out, hfq.thenr (by (repeat (first | exact Fr.refl _ _ | assumption | refine Fr.drewNr ?_ _ | refine Fr.drewr ?_ | refine Fr.allocr ?_ _ | refine Fr.setCellr ?_ _ _ (by first | exact Or.inl rfl | (right; simp; done) | (right; simp; omega))))) (fun _ _ h => h)⟩
              case measure => simp [intOf]; omega
        · have hkl2 : j = M.c.sts.length := by omega
          have H3 : Hid (stT st p.act p.mm j = stT st p.act p.mm st.length) := by show _ = _; rw [hkl2, HL.out]
          clear hkl2
          go_wp2_with fail
          go_ret
          exact ⟨ret_strT H3.out, hfq⟩
end Go.Proofs.Ytmolmbeeoecnfaa
