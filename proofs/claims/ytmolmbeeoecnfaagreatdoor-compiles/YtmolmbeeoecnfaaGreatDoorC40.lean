/- Own work: CmE, PgPZ, PgQ. -/
import Derived.Test.YtmolmbeeoecnfaaGreatDoorC35
import Derived.Test.YtmolmbeeoecnfaaGreatDoorC36
import Derived.Test.YtmolmbeeoecnfaaGreatDoorC39
import Derived.Test.YtmolmbeeoecnfaaGreatDoorC33
/- Own work: walks of the document's compiler: Events. -/
namespace Go.Proofs.YtmolmbeeoecnfaaGreatDoor
open Go.RowKit Go.BigFrame
set_option linter.unusedVariables false
set_option linter.unusedSimpArgs false

set_option maxRecDepth 100000 in
set_option maxHeartbeats 1000000 in
theorem devents_any (w : World) (G : GC) (st : List StP) (th : List TrH) (b : Nat) (hc : Ct w G) (hp : Cp w G b) (hT : TrsR G st th) :
    Calls Tryz.prog 15 #[.pointer (some ⟨b, 0, none⟩)] w fun e w' => e = .returned (.string (evS th)) ∧ Fr (fun _ => False) w w' := by
  have HC : Hid (Ct w G) := hc
  have HP : Hid (Cp w G b) := hp
  have HT : Hid (TrsR G st th) := hT
  have hl4 := hc.l4
  have HL : Hid (G.trs.length = th.length) := hT.len
  have HES : Hid (evS th = ⟨(evP th 26).toArray⟩) := rfl
  clear hc hp hT
  go_enter Tryz.func15, Tryz.ntmps15
  go_wp2_with fail
  go_loopw [3, 4] (fun vs vk wr => ∃ k : Nat, k ≤ 26 ∧ vk = .int .i64 k ∧ vs = .string ⟨(evP th k).toArray⟩ ∧ Fr (fun _ => False) w wr) (fun _ vk _ => 26 - (intOf vk).toNat)
  case atStart => exact ⟨0, Nat.zero_le _, rfl, rfl, Fr.refl _ _⟩
  case round =>
    obtain ⟨k, hk, rfl, rfl, hfr⟩ := hrel
    have hln := evP_len th k
    have hsz : (⟨(evP th k).toArray⟩ : ByteArray).size ≤ 26 := by show (evP th k).toArray.size ≤ 26; simp; omega
    by_cases hlt : (k : Int) < 26
    · obtain ⟨c, hc⟩ : ∃ c, UInt8.ofNat (97 + k) = c := ⟨_, rfl⟩
      have hcn : 97 + (k : Int) = c.toNat := by rw [← hc, UInt8.toNat_ofNat', Nat.mod_eq_of_lt (by omega)]; omega
      have hwr : (97 + (k : Int)) % 256 = c.toNat := by rw [← hcn]; omega
      have HS : Hid (evP th (k + 1) = if hasE th c = true then evP th k ++ [c] else evP th k) := by show _ = _; rw [evP, hc]
      clear hc
      generalize evP th k = E at *
      go_wp2_with fail
      go_loopw [3, 6] (fun vs vj w2 => ∃ j : Nat, j ≤ G.trs.length ∧ vj = .int .i64 j ∧ vs = .string ⟨E.toArray⟩ ∧ Hid (∀ i, i < j → evB th c i = false) ∧ Fr (fun _ => False) w w2) (fun _ vj _ => G.trs.length - (intOf vj).toNat)
      case atStart => exact ⟨0, Nat.zero_le _, rfl, rfl, fun i hi => (by omega), hfr⟩
      case round =>
        obtain ⟨j, hj, rfl, rfl, HJ, hfr2⟩ := hrel
        have hcr := HC.out.fr0 hfr2
        obtain ⟨c0, c1⟩ := HP.out.fr0 hfr2
        by_cases hjl : (j : Int) < G.trs.length
        · have hjl' : j < G.trs.length := by omega
          obtain ⟨t, hx⟩ : ∃ t, G.trs[j]? = some t := ⟨_, List.getElem?_eq_getElem hjl'⟩
          obtain ⟨h, hh⟩ : ∃ h, th[j]? = some h := ⟨_, List.getElem?_eq_getElem (by rw [← HL.out]; exact hjl')⟩
          have hq := HT.out.each j t h hx hh
          have hr4 := hcr.r4
          obtain ⟨g4, cc4, hv4, hcc4⟩ := row_form hr4 (by omega)
          rw [hv4] at c1 hr4
          obtain ⟨-, t1, -, -, -, -⟩ := tr6F hr4 hx
          have HF : Hid (evB th c j = (h.q.event == c)) := by show _ = _; simp [evB, hh]
          have HI : Hid (evB th c j = true → hasE th c = true) := fun hb => by
            unfold hasE
            rw [firstB_some (evB th c) j hb HJ.out _ (by rw [← HL.out]; exact hjl')]; rfl
          rw [hq.ev] at t1
          generalize h.q.event = ev at *
          clear hx hh hq hv4 hr4 hcr c0
          by_cases e : ev = c
          · have HI2 : Hid (hasE th c = true) := HI.out (by rw [HF.out]; simp [e])
            have HS2 : Hid (evP th (k + 1) = E ++ [c]) := by show _ = _; rw [HS.out, if_pos HI2.out]
            have e' : ((ev.toNat : Int) == c.toNat) = true := by simp [e]
            clear e HF HI HI2 HS
            go_wp2_with fail
            go_roundw
            case rel => exact ⟨k + 1, by omega, by go_num, ret_bs HS2.out, hfr2.allocr _⟩
            case measure => simp [intOf]; omega
          · have HB : Hid (evB th c j = false) := by show _ = _; rw [HF.out]; simp [e]
            have hne : ((ev.toNat : Int) == c.toNat) = false := by
              rw [beq_eq_false_iff_ne]; intro h; exact e (UInt8.toNat_inj.1 (by omega))
            clear e HF HI
            go_wp2_with fail
            go_roundw
            case rel => exact ⟨j + 1, by omega, by go_num, rfl, below_step HJ.out HB.out, hfr2⟩
            case measure => simp [intOf]; omega
        · have HI2 : Hid (hasE th c = false) := by
            show _ = _
            unfold hasE
            rw [firstB_none (evB th c) th.length (fun i hi => HJ.out i (by have := HL.out; omega))]; rfl
          have HS2 : Hid (evP th (k + 1) = E) := by show _ = _; rw [HS.out, if_neg (by rw [HI2.out]; simp)]
          clear HI2 HS hcr c0
          go_wp2_with fail
          go_roundw
          case rel => exact ⟨k + 1, by omega, by go_num, by rw [HS2.out], hfr2⟩
          case measure => simp [intOf]; omega
    · have hkn : k = 26 := by omega
      subst hkn
      clear hln
      obtain ⟨E, hE⟩ : ∃ E : ByteArray, (⟨(evP th 26).toArray⟩ : ByteArray) = E := ⟨_, rfl⟩
      rw [hE] at HES hsz
      rw [hE]
      clear hE
      go_wp2_with fail
      go_ret
      exact ⟨by rw [HES.out]; rfl, hfr⟩

def Chd (st : List StP) (s k : Nat) : Prop := k < st.length ∧ outAt st k = (s : Int)
def AimT (st : List StP) (a : Am) (k : Nat) : Prop := a.target = (k : Int) ∨ ((k : Int) < a.target ∧ a.target < (endAt st k : Int))
def AimM (mm : List (List Bool)) (a : Am) (s k : Nat) : Prop := a.target = (s : Int) ∧ a.mark ≠ 0 ∧ mem (memAt mm s) k = true
def AimB (mm : List (List Bool)) (a : Am) (k : Nat) : Prop := a.memory ≠ -1 ∧ mem (memAt mm a.memory.toNat) k = true
structure AmI (st : List StP) (a : Am) : Prop where
 ok : AmOk st a
 me : a.memory ≠ -1 → a.target = -1 ∧ a.mark = 0
 mk' : a.mark = 0 ∨ a.mark = 42 ∨ a.mark = 126
def NoneTo (st : List StP) (mm : List (List Bool)) (s : Nat) (a : Am) (k : Nat) : Prop := ∀ j, s < j → j < k → Chd st s j → ¬ AimT st a j ∧ ¬ AimM mm a s j ∧ ¬ AimB mm a j
section
variable {st : List StP} {mm : List (List Bool)} {s : Nat} {a : Am} (ht : Tr st)
include ht
theorem ch_T (ha : AmI st a) {k : Nat} (hn : NoneTo st mm s a k) (hk : Chd st s k) (h : AimT st a k) : chP st mm s a = (k, a) := by
 have hr := ht.child hk.1 hk.2
 have hb := ht.below hk.1 hr.1 hr.2
 have he := ht.end_gt hk.1
 have ht0 : (k : Int) ≤ a.target ∧ a.target < (endAt st k : Int) := by
  rcases h with h | h
  ·omega
  ·omega
 have hm : a.memory = -1 := by
  by_cases e : a.memory = -1
  ·exact e
  ·have := (ha.me e).1; omega
 have hB : isB st a.target.toNat s = true := by
  unfold isB
  simp only [Bool.and_eq_true, decide_eq_true_eq]
  omega
 unfold chP
 rw [if_neg (by simp [hm]), if_neg (by omega), if_pos hB]
 have hin : ∀ j, inT st s a.target.toNat j = true ↔ s < j ∧ outAt st j = (s : Int) ∧ (j = a.target.toNat ∨ (j < a.target.toNat ∧ a.target.toNat < endAt st j)) := by
  intro j
  unfold inT isB
  simp only [Bool.and_eq_true, Bool.or_eq_true, decide_eq_true_eq, beq_iff_eq]
 have hft : firstB (inT st s a.target.toNat) (endAt st s) = some k := by
  refine firstB_some _ k ((hin k).2 ⟨hr.1, hk.2, by omega⟩) (fun j hj => ?_) _ hr.2
  cases hx : inT st s a.target.toNat j with
  | false => rfl
  | true =>
   exfalso
   obtain ⟨j1, j2, j3⟩ := (hin j).1 hx
   exact (hn j j1 hj ⟨by have := hk.1; omega, j2⟩).1 (by unfold AimT; omega)
 unfold inTo
 rw [hft]
theorem ch_M (ha : AmI st a) {k : Nat} (hn : NoneTo st mm s a k) (hk : Chd st s k) (h : AimM mm a s k) (hl : k < 26) : chP st mm s a = if a.mark = 42 then (k, ⟨-1, 0, s⟩) else (k, Am.free) := by
 have hr := ht.child hk.1 hk.2
 obtain ⟨h1, h2, h3⟩ := h
 have hm : a.memory = -1 := by
  by_cases e : a.memory = -1
  ·exact e
  ·exact absurd (ha.me e).2 h2
 have hB : ¬ isB st a.target.toNat s = true := by
  unfold isB
  simp only [Bool.and_eq_true, decide_eq_true_eq]
  omega
 have hE : emp (memAt mm s) = false := by
  cases e : emp (memAt mm s) with
  | false => rfl
  | true =>
   unfold emp at e
   rw [List.all_eq_true] at e
   have := e k (List.mem_range.2 hl)
   rw [h3] at this; cases this
 have hft : firstB (inA st s (memAt mm s)) (endAt st s) = some k := by
  refine firstB_some _ k (by unfold inA; simp [hr.1, hk.2, h3]) (fun j hj => ?_) _ hr.2
  cases hx : inA st s (memAt mm s) j with
  | false => rfl
  | true =>
   exfalso
   unfold inA at hx
   simp only [Bool.and_eq_true, decide_eq_true_eq, beq_iff_eq] at hx
   exact (hn j hx.1 hj ⟨by have := hk.1; omega, hx.2.1⟩).2.1 ⟨h1, h2, hx.2.2⟩
 have hi : inAm st s (memAt mm s) = k := by unfold inAm; rw [hft]
 unfold chP
 rw [if_neg (by simp [hm]), if_neg (by omega), if_neg hB, if_neg (by
  rintro (c | c | c)
  ·exact c h1
  ·exact h2 c
  ·rw [hE] at c; cases c), hi]
theorem ch_B {k : Nat} (hn : NoneTo st mm s a k) (hk : Chd st s k) (h : AimB mm a k) : chP st mm s a = (k, a) := by
 have hr := ht.child hk.1 hk.2
 obtain ⟨h1, h2⟩ := h
 have hft : firstB (inA st s (memAt mm a.memory.toNat)) (endAt st s) = some k := by
  refine firstB_some _ k (by unfold inA; simp [hr.1, hk.2, h2]) (fun j hj => ?_) _ hr.2
  cases hx : inA st s (memAt mm a.memory.toNat) j with
  | false => rfl
  | true =>
   exfalso
   unfold inA at hx
   simp only [Bool.and_eq_true, decide_eq_true_eq, beq_iff_eq] at hx
   exact (hn j hx.1 hj ⟨by have := hk.1; omega, hx.2.1⟩).2.2 ⟨h1, hx.2.2⟩
 unfold chP
 rw [if_pos h1]
 unfold inAm
 rw [hft]
theorem ch_end (hs : s < st.length) (ha : AmI st a) (hn : NoneTo st mm s a (endAt st s)) (h1 : a.memory ≠ -1 → ∃ k, Chd st s k ∧ mem (memAt mm a.memory.toNat) k = true) (h2 : emp (memAt mm s) = false → ∃ k, Chd st s k ∧ mem (memAt mm s) k = true) : chP st mm s a = (s + 1, Am.free) := by
 have hin : ∀ k, Chd st s k → s < k ∧ k < endAt st s := fun k hk => ht.child hk.1 hk.2
 unfold chP
 by_cases c1 : a.memory ≠ -1
 ·obtain ⟨k, k1, k2⟩ := h1 c1
  exact absurd ⟨c1, k2⟩ (hn k (hin k k1).1 (hin k k1).2 k1).2.2
 ·rw [if_neg c1]
  by_cases c2 : a.target = -1
  ·rw [if_pos c2]
  ·rw [if_neg c2]
   have ho := ha.ok
   by_cases c3 : isB st a.target.toNat s = true
   ·exfalso
    unfold isB at c3
    simp only [Bool.and_eq_true, decide_eq_true_eq] at c3
    obtain ⟨c, d1, d2, d3, d4⟩ := ht.via hs a.target.toNat c3.1 c3.2
    have h0 := ho.1
    have hcl : c < st.length := by have := ht.end_gt hs; omega
    exact (hn c d2 (by omega) ⟨hcl, d1⟩).1 (by unfold AimT; omega)
   ·rw [if_neg c3]
    by_cases c4 : a.target ≠ (s : Int) ∨ a.mark = 0 ∨ emp (memAt mm s) = true
    ·rw [if_pos c4]
    ·exfalso
     have d1 : a.target = (s : Int) := Decidable.not_not.1 (fun e => c4 (Or.inl e))
     have d2 : a.mark ≠ 0 := fun e => c4 (Or.inr (Or.inl e))
     have d3 : emp (memAt mm s) = false := by
      cases e : emp (memAt mm s) with
      | false => rfl
      | true => exact absurd (Or.inr (Or.inr e)) c4
     obtain ⟨k, k1, k2⟩ := h2 d3
     exact (hn k (hin k k1).1 (hin k k1).2 k1).2.1 ⟨d1, d2, k2⟩
end
theorem hasB_nm {st : List StP} (hN : ∀ i k, i < k → k < st.length → nameAt st i ≠ nameAt st k) (l : List Bool) {i : Nat} (hi : i < st.length) : hasB ⟨(nmK st l st.length).toArray⟩ (nameAt st i) = mem l i := by
 rw [Bool.eq_iff_iff, hasB_mem]
 show nameAt st i ∈ (nmK st l st.length).toArray.toList ↔ _
 rw [List.toList_toArray, nmK_mem]
 constructor
 ·rintro ⟨j, h1, h2, h3⟩
  have : j = i := by
   rcases Nat.lt_trichotomy j i with e | e | e
   ·exact absurd h3 (hN j i e hi)
   ·exact e
   ·exact absurd h3.symm (hN i j e h1)
  subst this; exact h2
 ·intro h1; exact ⟨i, hi, h1, rfl⟩


def MemI (st : List StP) (mm : List (List Bool)) : Prop := ∀ (i : Nat) (x : StP), st[i]? = some x → (∀ k, mem (memAt mm i) k = false) ∨ (x.rem = true ∧ ∃ act, act.length = 26 ∧ Lg st act ∧ mem act i = true ∧ memAt mm i = rmM st x.wh act i)
theorem memAt_setG (mm : List (List Bool)) (i k : Nat) (m : List Bool) : memAt (mm.set i m) k = if i = k ∧ k < mm.length then m else memAt mm k := by
 unfold memAt
 rw [List.getElem?_set]
 by_cases e : i = k
 ·by_cases e2 : k < mm.length
  ·simp [e, e2]
  ·simp [e, e2]
 ·simp [e]
theorem memI_0 (st : List StP) : MemI st py0.mm := by
 intro i x _
 left
 intro k
 have : memAt py0.mm i = noSet := by
  unfold memAt py0
  simp only
  rw [List.getElem?_replicate]
  split
  ·rename_i m hm; split at hm
   ·injection hm with hm; exact hm.symm
   ·cases hm
  ·rfl
 rw [this]; exact mem_no k
theorem memI_rm {st : List StP} (left : List Bool) : ∀ (k : Nat) (p : Py), p.act.length = 26 → Lg st p.act → (∀ i, mem left i = true → mem p.act i = true) → MemI st p.mm → MemI st (rmF st left k p).mm
 | 0, p, hl, hL, hs, hm => hm
 | k + 1, p, hl, hL, hs, hm => by
  have ih := memI_rm left k p hl hL hs hm
  have ea := rmF_act st left k p
  rw [rmF, rmS]
  split
  ·rename_i x hx
   split
   ·rename_i hc
    intro i y hy
    dsimp only
    rw [memAt_setG]
    by_cases e : k = i ∧ i < (rmF st left k p).mm.length
    ·rw [if_pos e]
     obtain ⟨e1, e2⟩ := e
     subst e1
     rw [hx] at hy
     injection hy with hy
     subst hy
     exact Or.inr ⟨hc.2, p.act, hl, hL, hs k hc.1, by rw [ea]⟩
    ·rw [if_neg e]
     exact ih i y hy
   ·exact ih
  ·exact ih
theorem memI_ch {st : List StP} {mm : List (List Bool)} (ht : Tr st) (hk : ∀ (k : Nat) (x : StP), st[k]? = some x → x.rem = true → x.kind = 1) (h : MemI st mm) {s : Nat} (hs : s < st.length) (he : emp (memAt mm s) = false) : ∃ k, Chd st s k ∧ mem (memAt mm s) k = true := by
 obtain ⟨x, hx⟩ : ∃ x, st[s]? = some x := ⟨_, List.getElem?_eq_getElem hs⟩
 have h26 := ht.wf.len
 rcases h s x hx with h1 | ⟨h1, act, a1, a2, a3, a4⟩
 ·exfalso
  have : emp (memAt mm s) = true := by
   unfold emp
   rw [List.all_eq_true]
   intro i _
   rw [h1 i]; rfl
  rw [this] at he; cases he
 ·have hkd : kindAt st s = 1 := by rw [kindAt_at hx]; exact hk s x hx h1
  obtain ⟨c, c1, c2, c3, -⟩ := (a2.loc s hs).one a3 hkd
  have hcr := ht.child c1 c2
  rw [a4]
  unfold rmM
  split
  ·refine ⟨c, ⟨c1, c2⟩, ?_⟩
   unfold actB
   rw [mem_bel _ _ _ _ (by omega)]; simp [hcr.1, hcr.2, c3]
  ·have hin : s + 1 < endAt st s := by omega
   obtain ⟨d1, d2⟩ := inAm_ch ht hs hin (actB st act s)
   exact ⟨_, ⟨d1, d2⟩, mem_set_self (by simp [noSet]; omega) true⟩
theorem memI_deep {st : List StP} {mm : List (List Bool)} (ht : Tr st) (h : MemI st mm) {m : Nat} {x : StP} (hx : st[m]? = some x) (hw : x.wh = true) {s : Nat} (hs : s < st.length) (hm : mem (memAt mm m) s = true) :
  (kindAt st s = 1 → ∃ k, Chd st s k ∧ mem (memAt mm m) k = true) ∧ (kindAt st s = 2 → ∀ k, Chd st s k → mem (memAt mm m) k = true) := by
 have h26 := ht.wf.len
 rcases h m x hx with h1 | ⟨h1, act, a1, a2, a3, a4⟩
 ·rw [h1 s] at hm; cases hm
 ·rw [a4] at hm ⊢
  have e : rmM st x.wh act m = actB st act m := by unfold rmM; rw [if_pos hw]
  rw [e] at hm ⊢
  unfold actB at hm ⊢
  rw [mem_bel _ _ _ _ (by omega)] at hm
  simp only [Bool.and_eq_true, decide_eq_true_eq] at hm
  have hin : ∀ k, Chd st s k → m < k ∧ k < endAt st m := fun k hk => by
   have h3 := ht.child hk.1 hk.2
   have h4 := ht.below hs hm.1.1 hm.1.2
   omega
  refine ⟨fun hk => ?_, fun hk k hc => ?_⟩
  ·obtain ⟨c, c1, c2, c3, -⟩ := (a2.loc s hs).one hm.2 hk
   have := hin c ⟨c1, c2⟩
   refine ⟨c, ⟨c1, c2⟩, ?_⟩
   rw [mem_bel _ _ _ _ (by omega)]; simp [this.1, this.2, c3]
  ·have := hin k hc
   have h5 := hc.1
   rw [mem_bel _ _ _ _ (by omega)]
   simp [this.1, this.2, (a2.loc s hs).all hm.2 hk k hc.1 hc.2]

structure AmE (st : List StP) (mm : List (List Bool)) (a : Am) (s : Nat) : Prop where
 i : AmI st a
 m : a.memory ≠ -1 → mem (memAt mm a.memory.toNat) s = true ∧ ∃ x, st[a.memory.toNat]? = some x ∧ x.wh = true
 w : a.mark = 42 → ∃ x, st[a.target.toNat]? = some x ∧ x.wh = true
theorem amE_free (st : List StP) (mm : List (List Bool)) (s : Nat) (h0 : 0 < st.length) : AmE st mm Am.free s :=
 ⟨⟨⟨by decide, by show (-1 : Int) < _; omega, by decide, by show (-1 : Int) < _; omega⟩, fun h => absurd rfl h, Or.inl rfl⟩, fun h => absurd rfl h, fun h => by cases h⟩
theorem inAm_mem {st : List StP} {s : Nat} {l : List Bool} (ht : Tr st) (h : ∃ k, Chd st s k ∧ mem l k = true) : mem l (inAm st s l) = true := by
 obtain ⟨k, hk, hm⟩ := h
 have hr := ht.child hk.1 hk.2
 unfold inAm
 rcases firstB_spec (inA st s l) (endAt st s) with ⟨h1, h2⟩ | ⟨j, h1, h2, h3, -⟩
 ·have := h2 k hr.2
  unfold inA at this
  simp [hr.1, hk.2, hm] at this
 ·rw [h1]
  unfold inA at h3
  simp only [Bool.and_eq_true] at h3
  exact h3.2.2
theorem chP_amE {st : List StP} {mm : List (List Bool)} (ht : Tr st) (hk : ∀ (k : Nat) (x : StP), st[k]? = some x → x.rem = true → x.kind = 1) (hM : MemI st mm) {s : Nat} {a : Am} (hs : s < st.length) (hkd : kindAt st s = 1) (ha : AmE st mm a s) :
  AmE st mm (chP st mm s a).2 (chP st mm s a).1 := by
 have h0 := ht.s0
 unfold chP
 by_cases c1 : a.memory ≠ -1
 ·rw [if_pos c1]
  obtain ⟨m1, x, m2, m3⟩ := ha.m c1
  have hd := (memI_deep ht hM m2 m3 hs m1).1 hkd
  exact ⟨ha.i, fun _ => ⟨inAm_mem ht hd, x, m2, m3⟩, ha.w⟩
 ·rw [if_neg c1]
  have c1' : a.memory = -1 := Decidable.not_not.1 c1
  split
  ·exact amE_free st mm _ h0
  ·split
   ·exact ⟨ha.i, fun e => absurd c1' e, ha.w⟩
   ·split
    ·exact amE_free st mm _ h0
    ·rename_i c4
     have d1 : a.target = (s : Int) := Decidable.not_not.1 (fun e => c4 (Or.inl e))
     have d3 : emp (memAt mm s) = false := by
      cases e : emp (memAt mm s) with
      | false => rfl
      | true => exact absurd (Or.inr (Or.inr e)) c4
     split
     ·rename_i c5
      obtain ⟨x, x1, x2⟩ := ha.w c5
      rw [d1, Int.toNat_natCast] at x1
      have hch := memI_ch ht hk hM hs d3
      refine ⟨⟨⟨by show (-1 : Int) ≤ -1; omega, by show (-1 : Int) < _; omega, by show (-1 : Int) ≤ (s : Int); omega, by show (s : Int) < _; omega⟩, fun _ => ⟨rfl, rfl⟩, Or.inl rfl⟩, fun _ => ?_, fun h => by cases h⟩
      show mem (memAt mm (s : Int).toNat) _ = true ∧ ∃ x, st[(s : Int).toNat]? = some x ∧ x.wh = true
      rw [Int.toNat_natCast]
      exact ⟨inAm_mem ht hch, x, x1, x2⟩
     ·exact amE_free st mm _ h0
theorem and_amE {st : List StP} {mm : List (List Bool)} (ht : Tr st) (hM : MemI st mm) {s : Nat} {a : Am} (hs : s < st.length) (hkd : kindAt st s = 2) (ha : AmE st mm a s) {k : Nat} (hc : Chd st s k) : AmE st mm a k := by
 refine ⟨ha.i, fun e => ?_, ha.w⟩
 obtain ⟨m1, x, m2, m3⟩ := ha.m e
 exact ⟨(memI_deep ht hM m2 m3 hs m1).2 hkd k hc, x, m2, m3⟩
theorem ch_ask {st : List StP} {mm : List (List Bool)} (ht : Tr st) (hk : ∀ (k : Nat) (x : StP), st[k]? = some x → x.rem = true → x.kind = 1) (hM : MemI st mm) {s : Nat} {a : Am} (hs : s < st.length) (hkd : kindAt st s = 1) (ha : AmE st mm a s) :
  (a.memory ≠ -1 → ∃ k, Chd st s k ∧ mem (memAt mm a.memory.toNat) k = true) ∧ (emp (memAt mm s) = false → ∃ k, Chd st s k ∧ mem (memAt mm s) k = true) := by
 refine ⟨fun e => ?_, fun e => memI_ch ht hk hM hs e⟩
 obtain ⟨m1, x, m2, m3⟩ := ha.m e
 exact (memI_deep ht hM m2 m3 hs m1).1 hkd

theorem csStr_res (st : List StP) (cs : List CdP) : csStr (cs.map (resC st)) = csStr cs := by
 unfold csStr
 rw [List.flatMap_map]
 rfl
theorem un_trs {s : ByteArray} (h : (unE s).1 = 0) (G : GC) (hs : G.sts = (rd s).st) (ht : G.trs = (rd s).tr) : TrsR G (unSt s) (th0 s) := by
 obtain ⟨h160, hK, hw, hv, hm⟩ := unE_ok h
 have hok : (rcR s).1 = true := by
  simp only [rcK, Bool.and_eq_true] at hK
  exact hK.1
 have hM := (rd_eq s).1 hok
 have hp := plan_ok s h
 have hidx : ∀ c, idx G.sts c = idxP (rcR s).2.st c := fun c => by rw [hs, hM.st, idx_map]
 have hlen : G.sts.length = (rcR s).2.st.length := by rw [hs, hM.st, List.length_map]
 refine ⟨by rw [ht, hM.tr, List.length_map]; unfold th0 unTr; simp, fun k t hh h1 h2 => ?_⟩
 rw [ht, hM.tr, List.getElem?_map] at h1
 unfold th0 unTr at h2
 rw [List.map_map, List.getElem?_map] at h2
 cases hq : (rcR s).2.tr[k]? with
 | none => rw [hq] at h1; cases h1
 | some q0 =>
  rw [hq] at h1 h2
  simp only [Option.map_some, Option.some.injEq] at h1 h2
  subst h1
  subst h2
  have hmem : resQ (rcR s).2.st q0 ∈ unTr s := List.mem_map.2 ⟨q0, List.mem_of_getElem? hq, rfl⟩
  obtain ⟨p1, p2, p3, p4⟩ := hp.trs _ hmem
  refine ⟨⟨p1, rfl, hidx _⟩, rfl, (csStr_res _ _).symm, ?_, p3, rfl, rfl⟩
  intro c hc
  have h3 := p2 c hc
  obtain ⟨c0, hc0, rfl⟩ := List.mem_map.1 hc
  have h4 := idxP_bd (rcR s).2.st c0.name
  have h5 : (resC (rcR s).2.st c0).state = idxP (rcR s).2.st c0.name := rfl
  rw [h5] at h3
  refine ⟨(idxP (rcR s).2.st c0.name).toNat, ?_, ?_, ?_⟩
  ·rw [hidx]; show idxP (rcR s).2.st c0.name = _; omega
  ·rw [h5]; omega
  ·rw [hlen]; omega

theorem itF_keep {P : Py → Prop} (g : Nat → Py → Py) (hg : ∀ i p, P p → P (g i p)) : ∀ (n i : Nat) (p : Py), P p → P (itF g n i p)
 | 0, i, p, h => h
 | n + 1, i, p, h => itF_keep g hg n (i + 1) (g i p) (hg i p h)
theorem enF_mm (st : List StP) (m : List (List Bool)) : ∀ (f s : Nat) (a : Am) (p : Py), p.mm = m → (enF st f s a p).mm = m
 | 0, s, a, p, h => h
 | f + 1, s, a, p, h => by
  cases hx : st[s]? with
  | none => simp only [enF, hx]; exact h
  | some x =>
   by_cases h2 : x.kind = 2
   ·rw [enF_and hx h2]
    refine itF_keep (P := fun q => q.mm = m) _ (fun i q hq => ?_) _ _ _ h
    split
    ·exact enF_mm st m f i a q hq
    ·exact hq
   ·by_cases h3 : x.kind = 1
    ·rw [enF_or hx h3]
     exact enF_mm st m f _ _ _ h
    ·rw [enF_leaf hx h2 h3]; exact h
theorem hi_set {n : Nat} {l : List Bool} (h : NoHi n l) {k : Nat} (hk : k < n) (v : Bool) : NoHi n (l.set k v) := fun i hi => by
 rw [mem_set_ne (by omega)]; exact h i hi
theorem enF_hi (st : List StP) : ∀ (f s : Nat) (a : Am) (p : Py), NoHi st.length p.act → NoHi st.length (enF st f s a p).act
 | 0, s, a, p, h => h
 | f + 1, s, a, p, h => by
  cases hx : st[s]? with
  | none => simp only [enF, hx]; exact h
  | some x =>
   have hs := (List.getElem?_eq_some_iff.1 hx).1
   have h1 : NoHi st.length (p.act.set s true) := hi_set h hs true
   by_cases h2 : x.kind = 2
   ·rw [enF_and hx h2]
    refine itF_keep (P := fun q => NoHi st.length q.act) _ (fun i q hq => ?_) _ _ _ h1
    split
    ·exact enF_hi st f i a q hq
    ·exact hq
   ·by_cases h3 : x.kind = 1
    ·rw [enF_or hx h3]
     exact enF_hi st f _ _ _ h1
    ·rw [enF_leaf hx h2 h3]; exact h1
theorem lvF_mm (st : List StP) (left : List Bool) : ∀ (k : Nat) (p : Py), (lvF st left k p).mm = p.mm
 | 0, p => rfl
 | k + 1, p => by
  rw [lvF]
  split
  ·rw [lvF_mm st left k]
  ·exact lvF_mm st left k p
theorem lvF_hi (st : List StP) (left : List Bool) (k : Nat) (p : Py) (h : NoHi st.length p.act) : NoHi st.length (lvF st left k p).act := fun i hi => by
 rw [lvF_mem]
 split
 ·rfl
 ·exact h i hi
theorem lef_sub (st : List StP) (act : List Bool) (hl : act.length = 26) (q : TrQ) (i : Nat) (h : mem (lefB st act q) i = true) : mem act i = true := by
 unfold lefB at h
 split at h
 ·exact h
 ·unfold actB at h
  by_cases h26 : i < 26
  ·rw [mem_bel _ _ _ _ h26] at h
   simp only [Bool.and_eq_true] at h
   exact h.2
  ·rw [mem_farG (belK_len _ _ _) (by omega)] at h; cases h
theorem tkF_hi {st : List StP} (q : TrQ) (p : Py) (h : NoHi st.length p.act) : NoHi st.length (tkF st q p).act := by
 unfold tkF
 refine enF_hi st 26 _ _ _ ?_
 show NoHi st.length (lvF st _ st.length (rmF st _ st.length p)).act
 refine lvF_hi st _ _ _ ?_
 rw [rmF_act]; exact h
theorem tkF_mem {st : List StP} (q : TrQ) (p : Py) (hl : p.act.length = 26) (hL : Lg st p.act) (hm : MemI st p.mm) : MemI st (tkF st q p).mm := by
 have e : (tkF st q p).mm = (rmF st (lefB st p.act q) st.length p).mm := by
  unfold tkF
  exact enF_mm st _ 26 _ _ _ (lvF_mm st _ _ _)
 rw [e]
 exact memI_rm _ _ _ hl hL (fun i hi => lef_sub st p.act hl q i hi) hm
structure PyI (st : List StP) (p : Py) : Prop where
 l : p.act.length = 26
 g : Lg st p.act
 h : NoHi st.length p.act
 m : MemI st p.mm
theorem fold_pyI {st : List StP} {th : List TrH} (ht : Tr st) : ∀ (ns : List Nat) (p : Py), PyI st p → (∀ n ∈ ns, ∀ t, th[n]? = some t → ScOn st p.act t.q) → ns.Pairwise (Apt st th) → PyI st (ns.foldl (tk1 st th) p)
 | [], p, hp, _, _ => hp
 | n :: ns, p, hp, hs, hpw => by
  rw [List.foldl_cons]
  rw [List.pairwise_cons] at hpw
  cases hx : th[n]? with
  | none =>
   have e : tk1 st th p n = p := by unfold tk1; rw [hx]
   rw [e]
   exact fold_pyI ht ns p hp (fun m hm => hs m (by simp [hm])) hpw.2
  | some t =>
   have e : tk1 st th p n = tkF st t.q p := by unfold tk1; rw [hx]
   rw [e]
   obtain ⟨h1, h2⟩ := tkF_lg ht t.q p hp.l hp.g (hs n (by simp) t hx)
   refine fold_pyI ht ns _ ⟨by rw [tkF_alen]; exact hp.l, h1, tkF_hi t.q p hp.h, tkF_mem t.q p hp.l hp.g hp.m⟩ ?_ hpw.2
   intro m hm u hu
   have hold := hs m (by simp [hm]) u hu
   rcases hpw.1 m hm t u hx hu with hc | ⟨da, db, q1, q2, q3⟩
   ·exact Or.inl hc
   ·rcases hold with hc | ⟨d, d1, d2, d3, d4⟩
    ·exact Or.inl hc
    ·refine Or.inr ⟨d, d1, d2, d3, ?_⟩
     have : d = db := by omega
     subst this
     rw [h2 da q1 d q3]; exact d4
theorem plK_pyI {st : List StP} (th : List TrH) (ht : Tr st) (es : ByteArray) : ∀ k, PyI st (plK st th es k)
 | 0 => by
  have h1 := plK_lg th ht es 0
  refine ⟨h1.1, h1.2, enF_hi st 26 0 Am.free py0 (fun i _ => mem_no i), ?_⟩
  show MemI st (enF st 26 0 Am.free py0).mm
  rw [enF_mm st py0.mm 26 0 Am.free py0 rfl]
  exact memI_0 st
 | k + 1 => by
  have ih := plK_pyI th ht es k
  show PyI st (evStep st th (plK st th es k) (byte es k))
  generalize plK st th es k = p at ih ⊢
  unfold evStep spF
  have hin : ∀ n ∈ tkn st th p.act (byte es k), OwnOn st th p.act n := by
   intro n hn
   rcases (wcF_in st th p.act (clL st th p.act (byte es k)) ([], noSet)).1 n hn with h3 | h3
   ·simp at h3
   ·exact clK_on ht ih.g _ _ (Nat.le_refl _) n h3
  have hpw : (tkn st th p.act (byte es k)).Pairwise (Dis st th p.act) := wcF_dis st th p.act _ ([], noSet) (fun a ha => by simp at ha) List.Pairwise.nil
  refine fold_pyI ht _ { p with out := p.out ++ [46] } ⟨ih.l, ih.g, ih.h, ih.m⟩ ?_ (pairwise_impl _ hpw (fun a ha b hb hd => apt_of ht ih.l ih.g (hin a ha) (hin b hb) hd))
  intro n hn t hx
  obtain ⟨t', e1, e2, e3⟩ := hin n hn
  rw [hx] at e1
  obtain rfl : t = t' := by injection e1
  exact scOn_of ht ih.g e2 e3
end Go.Proofs.YtmolmbeeoecnfaaGreatDoor
