/- Own work: CoW8, CoY, CoJ. -/
import Derived.Test.YtmolmbeeoecnfaaGreatDoorC39
import Derived.Test.YtmolmbeeoecnfaaGreatDoorC45
/- Own work: the walk of the program's Compile. -/
namespace Go.Proofs.YtmolmbeeoecnfaaGreatDoor
open Go.RowKit Go.BigFrame
set_option linter.unusedVariables false
set_option linter.unusedSimpArgs false


theorem evB_congr {th th' : List TrH} (h : th.map TrH.q = th'.map TrH.q) (ev : UInt8) : evB th ev = evB th' ev := by
 funext j
 have h1 : (th.map TrH.q)[j]? = (th'.map TrH.q)[j]? := by rw [h]
 rw [List.getElem?_map, List.getElem?_map] at h1
 unfold evB
 cases hx : th[j]? with
 | none => rw [hx] at h1; cases hy : th'[j]? with
  | none => rfl
  | some y => rw [hy] at h1; cases h1
 | some x => rw [hx] at h1; cases hy : th'[j]? with
  | none => rw [hy] at h1; cases h1
  | some y =>
   rw [hy] at h1
   simp only [Option.map_some, Option.some.injEq] at h1
   simp only [h1]
theorem hasE_congr {th th' : List TrH} (h : th.map TrH.q = th'.map TrH.q) (ev : UInt8) : hasE th ev = hasE th' ev := by
 have hl : th.length = th'.length := by have := congrArg List.length h; simpa using this
 unfold hasE
 rw [evB_congr h, hl]
theorem evP_congr {th th' : List TrH} (h : th.map TrH.q = th'.map TrH.q) : ∀ k, evP th k = evP th' k
 | 0 => rfl
 | k + 1 => by rw [evP, evP, hasE_congr h, evP_congr h k]
theorem ceK_congr {th th' : List TrH} (h : th.map TrH.q = th'.map TrH.q) (st : List StP) (es : ByteArray) (x : Sx) (l : List Sx) : ∀ k, ceK st th es x l k = ceK st th' es x l k
 | 0 => rfl
 | k + 1 => by
  have e : spS st th (byte es k) x = spS st th' (byte es k) x := spF_congr h st _ _
  rw [ceK, ceK, ceK_congr h st es x l k, e]
theorem coF_congr {th th' : List TrH} (h : th.map TrH.q = th'.map TrH.q) (st : List StP) (es : ByteArray) (lim : Int) : ∀ (f : Nat) (l : List Sx) (rows : List ByteArray), coF st th es lim f l rows = coF st th' es lim f l rows
 | 0, _, _ => rfl
 | f + 1, l, rows => by
  rw [coF, coF]
  split
  ·rfl
  ·split
   ·rfl
   ·rw [ceK_congr h, coF_congr h st es lim f]
theorem coR_congr {th th' : List TrH} (h : th.map TrH.q = th'.map TrH.q) (st : List StP) (lim : Int) : coR st th lim = coR st th' lim := by
 have e : evS th = evS th' := by unfold evS; rw [evP_congr h]
 unfold coR
 rw [e, coF_congr h]

def limOf (rows : Int) : Int := if 99 < rows then 99 else rows
def cpS (s : ByteArray) (rows : Int) : Option ByteArray := coR (unSt s) (th0 s) (limOf rows)
def cpV (s : ByteArray) (rows : Int) : Value :=
 if (unE s).1 = 0 then (match cpS s rows with | some t => .tuple #[.string t, .int .i64 0, .int .i64 0] | none => .tuple #[.string ⟨#[]⟩, .int .i64 7, .int .i64 0])
 else .tuple #[.string ⟨#[]⟩, .int .i64 (unE s).1, .int .i64 (unE s).2]

set_option maxRecDepth 100000 in
set_option maxHeartbeats 1000000 in
theorem pcompile_any (H : Nat) (T : World → Prop) (hI : ItO H T) (w : World) (s : ByteArray) (rows : Int) (hm : s.size ≤ maxLen) (hT : T w) (hH : H ≤ w.heap.size) (hr : -9223372036854775808 ≤ rows ∧ rows ≤ 9223372036854775807) :
  Calls Tryz.prog 5 #[.string s, .int .i64 rows] w fun e w' => e = .returned (cpV s rows) ∧ Fr (fun _ => False) w w' := by
 have HI : Hid _ := hI
 have HT : Hid (T w) := hT
 have HH : Hid (H ≤ w.heap.size) := hH
 clear hI hT hH
 go_enter Tryz.func5, Tryz.ntmps5
 go_wp2_with fail
 refine (understand_any w s hm).mono ?_
 rintro e w1 ⟨a2, n2, k2, a3, n3, k3, rfl, hfr, hpl⟩
 by_cases hE : (unE s).1 = 0
 ·obtain ⟨pb, th, hpv, hth, hown⟩ := hpl hE
  have hP := plan_ok s hE
  rw [← hth] at hP
  have hr1 := hpv.toR [] 0
  have hb1 := Blk.new w1 #[.slice a2 n2 k2, .slice a3 n3 k3] 39
  have hfa : Fr (fun _ => False) w1 (w1.alloc (.cells #[.slice a2 n2 k2, .slice a3 n3 k3] 39)) := by (repeat (first | exact Fr.refl _ _ | assumption | refine Fr.drewNr ?_ _ | refine Fr.drewr ?_ | refine Fr.allocr ?_ _ | refine Fr.setCellr ?_ _ _ (by first | exact Or.inl rfl | (right; simp; done) | (right; simp; omega))))
  have HCP : Hid (∀ lim : Int, lim ≤ 99 → Calls Tryz.prog 13 #[.agg #[.slice a2 n2 k2, .slice a3 n3 k3], .int .i64 lim] (w1.alloc (.cells #[.slice a2 n2 k2, .slice a3 n3 k3] 39)) fun e w' => e = .returned (coV (coR (unSt s) (th0 s) lim)) ∧ Fr (fun _ => False) (w1.alloc (.cells #[.slice a2 n2 k2, .slice a3 n3 k3] 39)) w') := fun lim hlim => by
   have h := compile_any H T HI.out (w1.alloc (.cells #[.slice a2 n2 k2, .slice a3 n3 k3] 39)) (unSt s) a2 a3 n2 k2 n3 k3 th (hr1.fr0 hfa) (fun k hk => by
    have h2 : k < w1.heap.size := by
     rcases hk with h | h | ⟨t, ht, h⟩
     ·exact (World.ownsRow.lt hr1.r2 k h).2
     ·exact (World.ownsRow.lt hr1.r3 k h).2
     ·exact (World.ownsRow.lt (hr1.rc t ht) k h).2
    have := hfa.size
    omega) (HI.out.keep w _ _ HT.out (hfr.thenr hfa (fun _ _ h => h)) (fun _ h => h.elim)) (by have := HH.out; have := hfr.size; have := hfa.size; omega) hP (un_lg hE ⟨#[]⟩).1 lim hlim
   rw [coR_congr (hth.trans (th0_q s).symm)] at h
   exact h
  have HV : Hid (cpV s rows = match cpS s rows with | some t => .tuple #[.string t, .int .i64 0, .int .i64 0] | none => .tuple #[.string ⟨#[]⟩, .int .i64 7, .int .i64 0]) := by show _ = _; rw [cpV, if_pos hE]
  have HF : Hid (Fr (fun _ => False) w (w1.alloc (.cells #[.slice a2 n2 k2, .slice a3 n3 k3] 39))) := hfr.thenr hfa (fun _ _ h => h)
  have hne : (((unE s).1 : Int) != 0) = false := by rw [hE]; rfl
  clear hE hpl hpv hth hown hP hr1 hfa hfr
  by_cases hd : (99 : Int) < rows
  ·have HL : Hid (limOf rows = 99) := by show _ = _; rw [limOf, if_pos hd]
   have HC : Hid _ := HCP.out 99 (Int.le_refl _)
   have HS : Hid (cpS s rows = coR (unSt s) (th0 s) 99) := by show _ = _; rw [cpS, HL.out]
   clear HCP HL
   generalize hcr : coR (unSt s) (th0 s) 99 = cr at *
   have HCR : Hid (coR (unSt s) (th0 s) 99 = cr) := hcr
   clear hcr
   cases cr with
   | none =>
    have HV2 : Hid (cpV s rows = .tuple #[.string ⟨#[]⟩, .int .i64 7, .int .i64 0]) := by show _ = _; rw [HV.out, HS.out]
    have HC2 : Hid _ := HC.out
    unfold coV at HC2
    go_wp2_with fail
    refine Calls.mono HC2.out ?_
    rintro e w3 ⟨rfl, hf3⟩
    have hf4 := HF.out.thenr hf3 (fun _ _ h => h)
    go_wp2_with fail
    exact bodyPost_ret (v := .tuple #[.string ⟨#[]⟩, .int .i64 7, .int .i64 0]) (by simp [results, Tryz.results5, go_sem]) rfl ⟨by rw [HV2.out], hf4⟩
   | some t =>
    have HV2 : Hid (cpV s rows = .tuple #[.string t, .int .i64 0, .int .i64 0]) := by show _ = _; rw [HV.out, HS.out]
    have HC2 : Hid _ := HC.out
    unfold coV at HC2
    go_wp2_with fail
    refine Calls.mono HC2.out ?_
    rintro e w3 ⟨rfl, hf3⟩
    have hf4 := HF.out.thenr hf3 (fun _ _ h => h)
    go_wp2_with fail
    exact bodyPost_ret (v := .tuple #[.string t, .int .i64 0, .int .i64 0]) (by simp [results, Tryz.results5, go_sem]) rfl ⟨by rw [HV2.out], hf4⟩
  ·have hd' : decide ((99 : Int) < rows) = false := by simpa using hd
   have HL : Hid (limOf rows = rows) := by show _ = _; rw [limOf, if_neg hd]
   have HC : Hid _ := HCP.out rows (by omega)
   have HS : Hid (cpS s rows = coR (unSt s) (th0 s) rows) := by show _ = _; rw [cpS, HL.out]
   clear HCP HL hd
   generalize hcr : coR (unSt s) (th0 s) rows = cr at *
   have HCR : Hid (coR (unSt s) (th0 s) rows = cr) := hcr
   clear hcr
   cases cr with
   | none =>
    have HV2 : Hid (cpV s rows = .tuple #[.string ⟨#[]⟩, .int .i64 7, .int .i64 0]) := by show _ = _; rw [HV.out, HS.out]
    have HC2 : Hid _ := HC.out
    unfold coV at HC2
    go_wp2_with fail
    refine Calls.mono HC2.out ?_
    rintro e w3 ⟨rfl, hf3⟩
    have hf4 := HF.out.thenr hf3 (fun _ _ h => h)
    go_wp2_with fail
    exact bodyPost_ret (v := .tuple #[.string ⟨#[]⟩, .int .i64 7, .int .i64 0]) (by simp [results, Tryz.results5, go_sem]) rfl ⟨by rw [HV2.out], hf4⟩
   | some t =>
    have HV2 : Hid (cpV s rows = .tuple #[.string t, .int .i64 0, .int .i64 0]) := by show _ = _; rw [HV.out, HS.out]
    have HC2 : Hid _ := HC.out
    unfold coV at HC2
    go_wp2_with fail
    refine Calls.mono HC2.out ?_
    rintro e w3 ⟨rfl, hf3⟩
    have hf4 := HF.out.thenr hf3 (fun _ _ h => h)
    go_wp2_with fail
    exact bodyPost_ret (v := .tuple #[.string t, .int .i64 0, .int .i64 0]) (by simp [results, Tryz.results5, go_sem]) rfl ⟨by rw [HV2.out], hf4⟩
 ·have hne : (((unE s).1 : Int) != 0) = true := by rw [bne_iff_ne]; omega
  have HV : Hid (cpV s rows = .tuple #[.string ⟨#[]⟩, .int .i64 (unE s).1, .int .i64 (unE s).2]) := by show _ = _; rw [cpV, if_neg hE]
  have HF : Hid (Fr (fun _ => False) w w1) := hfr
  clear hE hfr hpl
  go_wp2_with fail
  exact bodyPost_ret (v := .tuple #[.string ⟨#[]⟩, .int .i64 (unE s).1, .int .i64 (unE s).2]) (by simp [results, Tryz.results5, go_sem]) rfl ⟨by rw [HV.out], HF.out.allocr _⟩

structure CpT (s : ByteArray) (rows : Int) (t : ByteArray) (l : List Sx) (Cs : List (List Cl)) : Prop where
 ok : (unE s).1 = 0
 ct : CoT (unSt s) (th0 s) (limOf rows) l Cs
 tx : t = ⟨(taK (evS (th0 s)) ⟨(begP (unSt s)).out.toArray⟩ (Cs.map txC) Cs.length).toArray⟩
section
variable {s t : ByteArray} {rows : Int} {l : List Sx} {Cs : List (List Cl)} (h : CpT s rows t l Cs)
include h
end

structure Bel (n : Nat) (m : List Bool) : Prop where
 len : m.length = 26
 bd : ∀ j, mem m j = true → j < n
structure Bnd (n : Nat) (p : Py) : Prop where
 ac : Bel n p.act
 ml : p.mm.length = 26
 me : ∀ (i : Nat) (m : List Bool), p.mm[i]? = some m → Bel n m ∧ (n ≤ i → m = noSet)
theorem Bel.no (n : Nat) : Bel n noSet := ⟨rfl, fun j h => by rw [mem_no] at h; cases h⟩
theorem Bel.set {n : Nat} {m : List Bool} (h : Bel n m) {k : Nat} (hk : k < n) (v : Bool) : Bel n (m.set k v) := by
 refine ⟨by rw [List.length_set]; exact h.len, fun j hj => ?_⟩
 rw [mem_set] at hj
 split at hj
 ·rename_i e; omega
 ·exact h.bd j hj
theorem Bel.off {n : Nat} {m : List Bool} (h : Bel n m) (k : Nat) : Bel n (m.set k false) := by
 refine ⟨by rw [List.length_set]; exact h.len, fun j hj => ?_⟩
 rw [mem_set] at hj
 split at hj
 ·cases hj
 ·exact h.bd j hj
theorem Bnd.act {n : Nat} {p : Py} (h : Bnd n p) {a : List Bool} (ha : Bel n a) (o : List UInt8) : Bnd n { p with act := a, out := o } := ⟨ha, h.ml, h.me⟩
theorem itF_bnd (n : Nat) (g : Nat → Py → Py) (hg : ∀ i p, Bnd n p → Bnd n (g i p)) : ∀ (k i : Nat) (p : Py), Bnd n p → Bnd n (itF g k i p)
 | 0, i, p, h => h
 | k + 1, i, p, h => itF_bnd n g hg k (i + 1) _ (hg i p h)
theorem enF_bnd (st : List StP) : ∀ (f s : Nat) (a : Am) (p : Py), Bnd st.length p → Bnd st.length (enF st f s a p)
 | 0, s, a, p, h => h
 | f + 1, s, a, p, h => by
  rw [enF]
  split
  ·exact h
  ·rename_i x hx
   have h1 := h.act (h.ac.set (List.getElem?_eq_some_iff.1 hx).1 true) (p.out ++ bls x.enter)
   split
   ·refine itF_bnd _ _ ?_ _ _ _ h1
    intro i q hq
    split
    ·exact enF_bnd st f i a q hq
    ·exact hq
   ·split
    ·exact enF_bnd st f _ _ _ h1
    ·exact h1
theorem lvF_bnd (st : List StP) (left : List Bool) : ∀ (k : Nat) (p : Py), Bnd st.length p → Bnd st.length (lvF st left k p)
 | 0, p, h => h
 | k + 1, p, h => by
  rw [lvF]
  split
  ·exact lvF_bnd st left k _ (h.act (h.ac.off k) _)
  ·exact lvF_bnd st left k p h
theorem rmM_bel {st : List StP} (ht : Tr st) {i : Nat} {x : StP} (hx : st[i]? = some x) (hk : x.kind ≠ 0) (wh : Bool) {act : List Bool} (ha : Bel st.length act) : Bel st.length (rmM st wh act i) := by
 refine ⟨rmM_len _ _ _ _, ?_⟩
 unfold rmM
 split
 ·intro j hj
  have h26 : j < 26 := mem_ge (belK_len act i (endAt st i)) hj
  unfold actB at hj
  rw [mem_bel _ _ _ _ h26] at hj
  simp only [Bool.and_eq_true] at hj
  exact ha.bd j hj.2
 ·have h1 := ht.wf.inn i x hx hk
  have h2 := inAm_ch ht (List.getElem?_eq_some_iff.1 hx).1 (by rw [endAt_at hx]; exact h1) (actB st act i)
  exact ((Bel.no st.length).set h2.1 true).bd
theorem rmF_bnd {st : List StP} (ht : Tr st) (hr : RmOk st) (left : List Bool) : ∀ (k : Nat) (p : Py), Bnd st.length p → Bnd st.length (rmF st left k p)
 | 0, p, h => h
 | k + 1, p, h => by
  have ih := rmF_bnd ht hr left k p h
  rw [rmF, rmS]
  split
  ·rename_i x hx
   split
   ·rename_i hc
    have hb := rmM_bel ht hx (hr k x hx hc.2) x.wh ih.ac
    have hk := (List.getElem?_eq_some_iff.1 hx).1
    refine ⟨ih.ac, by show ((rmF st left k p).mm.set k _).length = 26; rw [List.length_set]; exact ih.ml, fun i m hm => ?_⟩
    have hm' : ((rmF st left k p).mm.set k (rmM st x.wh (rmF st left k p).act k))[i]? = some m := hm
    rw [List.getElem?_set] at hm'
    split at hm'
    ·rename_i e
     split at hm'
     ·simp only [Option.some.injEq] at hm'
      rw [← hm']
      exact ⟨hb, fun h => by omega⟩
     ·cases hm'
    ·exact ih.me i m hm'
   ·exact ih
  ·exact ih
theorem tkF_bnd {st : List StP} (ht : Tr st) (hr : RmOk st) (t : TrQ) (p : Py) (h : Bnd st.length p) : Bnd st.length (tkF st t p) := by
 unfold tkF
 have h1 := lvF_bnd st (lefB st p.act t) st.length _ (rmF_bnd ht hr (lefB st p.act t) st.length p h)
 exact enF_bnd st 26 _ _ _ (h1.act h1.ac _)
theorem fold_bnd {st : List StP} (ht : Tr st) (hr : RmOk st) (th : List TrH) : ∀ (ns : List Nat) (p : Py), Bnd st.length p → Bnd st.length (ns.foldl (tk1 st th) p)
 | [], p, h => h
 | n :: ns, p, h => by
  rw [List.foldl_cons]
  refine fold_bnd ht hr th ns _ ?_
  unfold tk1; split
  ·exact tkF_bnd ht hr _ p h
  ·exact h
theorem plK_bnd {st : List StP} (ht : Tr st) (hr : RmOk st) (th : List TrH) (es : ByteArray) : ∀ k, Bnd st.length (plK st th es k)
  | 0 => enF_bnd st _ _ _ _ ⟨Bel.no _, rfl, fun i m hm => by
      have : m = noSet := by
        have h1 : (List.replicate 26 noSet)[i]? = some m := hm
        rw [List.getElem?_replicate] at h1
        split at h1
        · simp only [Option.some.injEq] at h1; exact h1.symm
        · cases h1
      rw [this]
      exact ⟨Bel.no _, fun _ => rfl⟩⟩
  | k + 1 => by
    have h := plK_bnd ht hr th es k
    exact fold_bnd ht hr th _ _ (h.act h.ac _)

theorem bel_ext {n : Nat} {m m' : List Bool} (h : Bel n m) (h' : Bel n m') (he : ∀ j, j < n → mem m j = mem m' j) : m = m' := by
  apply List.ext_getElem?
  intro j
  by_cases hj : j < 26
  · have e1 : m[j]? = some (mem m j) := by
      unfold mem
      rw [List.getElem?_eq_getElem (by rw [h.len]; exact hj)]
    have e2 : m'[j]? = some (mem m' j) := by
      unfold mem
      rw [List.getElem?_eq_getElem (by rw [h'.len]; exact hj)]
    rw [e1, e2]
    by_cases hn : j < n
    · rw [he j hn]
    · have a1 : mem m j = false := by
        cases hb : mem m j with
        | false => rfl
        | true => exact absurd (h.bd j hb) hn
      have a2 : mem m' j = false := by
        cases hb : mem m' j with
        | false => rfl
        | true => exact absurd (h'.bd j hb) hn
      rw [a1, a2]
  · rw [List.getElem?_eq_none (by rw [h.len]; omega), List.getElem?_eq_none (by rw [h'.len]; omega)]
def NmI (st : List StP) : Prop := (∀ k, k < st.length → nameAt st k ≠ 47) ∧ ∀ i k, i < st.length → k < st.length → nameAt st i = nameAt st k → i = k
theorem nmK_inj {st : List StP} (hn : NmI st) {m m' : List Bool} (h : Bel st.length m) (h' : Bel st.length m') (he : nmK st m st.length = nmK st m' st.length) : m = m' := by
 have key : ∀ (a b : List Bool), nmK st a st.length = nmK st b st.length → ∀ j, j < st.length → mem a j = true → mem b j = true := by
  intro a b e j hj ha
  have h1 : nameAt st j ∈ nmK st a st.length := (nmK_mem st a _ _).2 ⟨j, hj, ha, rfl⟩
  rw [e] at h1
  obtain ⟨i, h2, h3, h4⟩ := (nmK_mem st b _ _).1 h1
  rw [hn.2 i j h2 hj h4] at h3
  exact h3
 refine bel_ext h h' (fun j hj => ?_)
 cases hb : mem m j with
 | true => exact (key m m' he j hj hb).symm
 | false =>
  cases hb' : mem m' j with
  | false => rfl
  | true => rw [key m' m he.symm j hj hb'] at hb; cases hb
theorem nmK_sl {st : List StP} (hn : NmI st) (m : List Bool) : ∀ c ∈ nmK st m st.length, c ≠ 47 := by
 intro c hc
 obtain ⟨j, h1, -, h3⟩ := (nmK_mem st m c _).1 hc
 rw [← h3]; exact hn.1 j h1
def sgL (st : List StP) (mm : List (List Bool)) : Nat → List (List UInt8)
 | 0 => []
 | k + 1 => if emp (memAt mm k) = true then sgL st mm k else sgL st mm k ++ [nameAt st k :: nmK st (memAt mm k) st.length]
def flS (L : List (List UInt8)) : List UInt8 := L.flatMap fun x => 47 :: x
theorem stT_fl (st : List StP) (act : List Bool) (mm : List (List Bool)) : ∀ k, stT st act mm k = nmK st act st.length ++ flS (sgL st mm k)
 | 0 => by simp [stT, sgL, flS]
 | k + 1 => by
  rw [stT, sgL, stT_fl st act mm k]
  split
  ·rfl
  ·simp [flS]
theorem sg_cut : ∀ (A B R Q : List UInt8), (∀ c ∈ A, c ≠ 47) → (∀ c ∈ B, c ≠ 47) → (R = [] ∨ ∃ r, R = 47 :: r) → (Q = [] ∨ ∃ r, Q = 47 :: r) → A ++ R = B ++ Q → A = B ∧ R = Q
 | [], [], R, Q, _, _, _, _, h => ⟨rfl, h⟩
 | [], b :: B, R, Q, _, hB, hR, _, h => by
  exfalso
  rcases hR with rfl | ⟨r, rfl⟩
  ·simp at h
  ·simp only [List.nil_append, List.cons_append, List.cons.injEq] at h
   exact hB b (by simp) h.1.symm
 | a :: A, [], R, Q, hA, _, _, hQ, h => by
  exfalso
  rcases hQ with rfl | ⟨r, rfl⟩
  ·simp at h
  ·simp only [List.nil_append, List.cons_append, List.cons.injEq] at h
   exact hA a (by simp) h.1
 | a :: A, b :: B, R, Q, hA, hB, hR, hQ, h => by
  simp only [List.cons_append, List.cons.injEq] at h
  obtain ⟨h1, h2⟩ := sg_cut A B R Q (fun c hc => hA c (by simp [hc])) (fun c hc => hB c (by simp [hc])) hR hQ h.2
  exact ⟨by rw [h.1, h1], h2⟩
theorem flS_hd (L : List (List UInt8)) : flS L = [] ∨ ∃ r, flS L = 47 :: r := by
 cases L with
 | nil => exact Or.inl rfl
 | cons x L => exact Or.inr ⟨x ++ flS L, by simp [flS]⟩
theorem flS_inj : ∀ (L M : List (List UInt8)), (∀ x ∈ L, ∀ c ∈ x, c ≠ 47) → (∀ x ∈ M, ∀ c ∈ x, c ≠ 47) → flS L = flS M → L = M
 | [], [], _, _, _ => rfl
 | [], y :: M, _, _, h => by simp [flS] at h
 | x :: L, [], _, _, h => by simp [flS] at h
 | x :: L, y :: M, hL, hM, h => by
  have e : ∀ (z : List UInt8) (N : List (List UInt8)), flS (z :: N) = 47 :: (z ++ flS N) := fun z N => by simp [flS]
  rw [e, e] at h
  simp only [List.cons.injEq, true_and] at h
  obtain ⟨h1, h2⟩ := sg_cut x y _ _ (hL x (by simp)) (hM y (by simp)) (flS_hd L) (flS_hd M) h
  rw [h1, flS_inj L M (fun z hz => hL z (by simp [hz])) (fun z hz => hM z (by simp [hz])) h2]
theorem sgL_mem (st : List StP) (mm : List (List Bool)) (x : List UInt8) : ∀ k, x ∈ sgL st mm k ↔ ∃ j, j < k ∧ emp (memAt mm j) = false ∧ x = nameAt st j :: nmK st (memAt mm j) st.length
 | 0 => by simp [sgL]
 | k + 1 => by
  have ih := sgL_mem st mm x k
  rw [sgL]
  split
  ·rename_i hc
   rw [ih]
   refine ⟨fun ⟨j, h1, h2, h3⟩ => ⟨j, by omega, h2, h3⟩, fun ⟨j, h1, h2, h3⟩ => ⟨j, ?_, h2, h3⟩⟩
   by_cases e : j = k
   ·subst e; rw [hc] at h2; cases h2
   ·omega
  ·rename_i hc
   simp only [List.mem_append, List.mem_cons, List.not_mem_nil, or_false, ih]
   constructor
   ·rintro (⟨j, h1, h2, h3⟩ | h)
    ·exact ⟨j, by omega, h2, h3⟩
    ·exact ⟨k, by omega, by simpa using hc, h⟩
   ·rintro ⟨j, h1, h2, h3⟩
    by_cases e : j = k
    ·subst e; exact Or.inr h3
    ·exact Or.inl ⟨j, by omega, h2, h3⟩
theorem emp_no {n : Nat} {m : List Bool} (h : Bel n m) (he : emp m = true) : m = noSet := by
 refine bel_ext h (Bel.no n) (fun j hj => ?_)
 rw [mem_no]
 cases hb : mem m j with
 | false => rfl
 | true =>
  exfalso
  have h26 := mem_ge h.len hb
  unfold emp at he
  rw [List.all_eq_true] at he
  have := he j (by simp [h26])
  rw [hb] at this; cases this
theorem stT_inj {st : List StP} (hn : NmI st) {p q : Py} (hp : Bnd st.length p) (hq : Bnd st.length q) (h : stT st p.act p.mm st.length = stT st q.act q.mm st.length) : sxP p = sxP q := by
 rw [stT_fl, stT_fl] at h
 have hsl : ∀ (mm : List (List Bool)), ∀ x ∈ sgL st mm st.length, ∀ c ∈ x, c ≠ 47 := by
  intro mm x hx c hc
  obtain ⟨j, h1, -, rfl⟩ := (sgL_mem st mm x _).1 hx
  rcases List.mem_cons.1 hc with e | e
  ·rw [e]; exact hn.1 j h1
  ·exact nmK_sl hn _ c e
 obtain ⟨h1, h2⟩ := sg_cut _ _ _ _ (nmK_sl hn p.act) (nmK_sl hn q.act) (flS_hd _) (flS_hd _) h
 have h3 := flS_inj _ _ (hsl p.mm) (hsl q.mm) h2
 have hat : ∀ {r : Py}, Bnd st.length r → ∀ i, i < 26 → r.mm[i]? = some (memAt r.mm i) ∧ Bel st.length (memAt r.mm i) ∧ (st.length ≤ i → memAt r.mm i = noSet) := by
  intro r hr i hi
  have e : r.mm[i]? = some (memAt r.mm i) := by
   unfold memAt
   rw [List.getElem?_eq_getElem (by rw [hr.ml]; exact hi)]
  exact ⟨e, hr.me i _ e⟩
 have key : ∀ {a b : Py}, Bnd st.length a → Bnd st.length b → sgL st a.mm st.length = sgL st b.mm st.length → ∀ i, i < st.length → i < 26 → emp (memAt a.mm i) = false → memAt a.mm i = memAt b.mm i := by
  intro a b ha hb e i hi h26 he
  have m1 := (sgL_mem st a.mm _ st.length).2 ⟨i, hi, he, rfl⟩
  rw [e] at m1
  obtain ⟨j, j1, j2, j3⟩ := (sgL_mem st b.mm _ st.length).1 m1
  simp only [List.cons.injEq] at j3
  have : i = j := hn.2 i j hi j1 j3.1
  subst this
  exact nmK_inj hn (hat ha i h26).2.1 (hat hb i h26).2.1 j3.2
 refine Prod.ext (nmK_inj hn hp.ac hq.ac h1) ?_
 show p.mm = q.mm
 apply List.ext_getElem?
 intro i
 by_cases hi : i < 26
 ·rw [(hat hp i hi).1, (hat hq i hi).1]
  congr 1
  by_cases hs : i < st.length
  ·cases he : emp (memAt p.mm i) with
   | false => exact key hp hq h3 i hs hi he
   | true =>
    cases he' : emp (memAt q.mm i) with
    | false => exact (key hq hp h3.symm i hs hi he').symm
    | true => rw [emp_no (hat hp i hi).2.1 he, emp_no (hat hq i hi).2.1 he']
  ·rw [(hat hp i hi).2.2 (by omega), (hat hq i hi).2.2 (by omega)]
 ·rw [List.getElem?_eq_none (by rw [hp.ml]; omega), List.getElem?_eq_none (by rw [hq.ml]; omega)]
theorem un_nmI {s : ByteArray} (h : (unE s).1 = 0) : NmI (unSt s) := by
 obtain ⟨h1, h2⟩ := un_names h
 refine ⟨fun k hk e => ?_, fun i k hi hk e => ?_⟩
 ·have := h1 k hk
  rw [e] at this
  exact absurd this (by decide)
 ·rcases Nat.lt_trichotomy i k with h3 | h3 | h3
  ·exact absurd e (h2 i k h3 hk)
  ·exact h3
  ·exact absurd e.symm (h2 k i h3 hi)
end Go.Proofs.YtmolmbeeoecnfaaGreatDoor
