/- Own work: CoS. -/
import Derived.Test.YtmolmbeeoecnfaaGreatDoorF34
/- Own work: plain: how long a compiled table is at most. -/
namespace Go.Proofs.YtmolmbeeoecnfaaGreatDoor
open Go.RowKit Go.BigFrame
set_option linter.unusedVariables false
set_option linter.unusedSimpArgs false


def sW : List StP → Nat
 | [] => 0
 | x :: l => x.enter.size + x.leave.size + sW l
def tW : List TrQ → Nat
 | [] => 0
 | t :: l => 4 + t.acts.size + tW l
theorem sW_app : ∀ l m : List StP, sW (l ++ m) = sW l + sW m
 | [], m => by simp [sW]
 | x :: l, m => by simp only [List.cons_append, sW, sW_app l m]; omega
theorem tW_app : ∀ l m : List TrQ, tW (l ++ m) = tW l + tW m
 | [], m => by simp [tW]
 | x :: l, m => by simp only [List.cons_append, tW, tW_app l m]; omega
theorem sW_modify (g : StP → StP) (hg : ∀ x, (g x).enter = x.enter ∧ (g x).leave = x.leave) : ∀ (l : List StP) (i : Nat), sW (l.modify i g) = sW l
 | [], i => by cases i <;> rfl
 | x :: l, 0 => by
  show (g x).enter.size + (g x).leave.size + sW l = _
  rw [(hg x).1, (hg x).2]; rfl
 | x :: l, i + 1 => by
  show x.enter.size + x.leave.size + sW (l.modify i g) = _
  rw [sW_modify g hg l i]; rfl
def Wt (r q : Rn) : Prop := sW q.st + tW q.tr + r.i ≤ sW r.st + tW r.tr + q.i
theorem Wt.trans {r q z : Rn} (h : Wt r q) (g : Wt q z) : Wt r z := by unfold Wt at *; omega
theorem cut_wt (s : ByteArray) (i j : Nat) : (cut s i j).size ≤ j - i := by
 show ((s.data.toList.drop i).take (j - i)).toArray.size ≤ _
 rw [List.size_toArray, List.length_take]
 omega
theorem ab_wt (s : ByteArray) (sg : UInt8) (i : Nat) : (abS s sg i).size + i ≤ abI s sg i := by
 unfold abS abI
 have h1 := cut_wt s (i + 1) (dend s (i + 1))
 have h2 := dend_ge s (i + 1)
 split
 ·omega
 ·show 0 + i ≤ i; omega
theorem rtP_yesW {s : ByteArray} {own i : Nat} (h : (rtP s own i).1 = true) : isE (byte s (i + 1)) = true ∧ (rcP s (i + 2) []).1 = true ∧ byte s (rcP s (i + 2) []).2.1 = 62 ∧ isN (byte s ((rcP s (i + 2) []).2.1 + 1)) = true := by
 unfold rtP at h
 simp only at h
 by_cases h1 : isE (byte s (i + 1)) = false
 ·rw [if_pos h1] at h; cases h
 ·rw [if_neg h1] at h
  by_cases h2 : (rcP s (i + 2) []).1 = false
  ·rw [if_pos h2] at h; cases h
  ·rw [if_neg h2] at h
   by_cases h3 : byte s (rcP s (i + 2) []).2.1 ≠ 62
   ·rw [if_pos h3] at h; cases h
   ·rw [if_neg h3] at h
    by_cases h4 : isN (byte s ((rcP s (i + 2) []).2.1 + 1)) = false
    ·rw [if_pos h4] at h; cases h
    ·exact ⟨by simpa using h1, by simpa using h2, by simpa using h3, by simpa using h4⟩
theorem rtP_isW {s : ByteArray} {own i : Nat} (h1 : isE (byte s (i + 1)) = true) (h2 : (rcP s (i + 2) []).1 = true) (h3 : byte s (rcP s (i + 2) []).2.1 = 62) (h4 : isN (byte s ((rcP s (i + 2) []).2.1 + 1)) = true) :
  rtP s own i = (true, dend s (rmI s ((rcP s (i + 2) []).2.1 + 2)),
  ⟨own, byte s (i + 1), (rcP s (i + 2) []).2.2, byte s ((rcP s (i + 2) []).2.1 + 1), (rcP s (i + 2) []).2.1 + 1, -1, rmC s ((rcP s (i + 2) []).2.1 + 2), (rcP s (i + 2) []).2.1 + 2, cut s (rmI s ((rcP s (i + 2) []).2.1 + 2)) (dend s (rmI s ((rcP s (i + 2) []).2.1 + 2)))⟩) := by
 unfold rtP
 simp only
 rw [if_neg (by simp [h1]), if_neg (by simp [h2]), if_neg (by simp [h3]), if_neg (by simp [h4])]
theorem rtP_wt {s : ByteArray} {own i : Nat} (h : (rtP s own i).1 = true) : 4 + (rtP s own i).2.2.acts.size + i ≤ (rtP s own i).2.1 := by
 obtain ⟨h1, h2, h3, h4⟩ := rtP_yesW h
 rw [rtP_isW h1 h2 h3 h4]
 have hi := isE_b s _ h1
 have b1 := rcP_bd s (i + 2) [] (by omega)
 have hn := isN_b s _ h4
 have b2 := rmI_bd s ((rcP s (i + 2) []).2.1 + 2) (by omega)
 have b3 := dend_ge s (rmI s ((rcP s (i + 2) []).2.1 + 2))
 have b4 := cut_wt s (rmI s ((rcP s (i + 2) []).2.1 + 2)) (dend s (rmI s ((rcP s (i + 2) []).2.1 + 2)))
 simp only
 omega
theorem Wt.rtF {s : ByteArray} {own : Nat} : ∀ (f : Nat) (r : Rn), (rtF s own f r).1 = true → Wt r (rtF s own f r).2
 | 0, r, _ => by unfold Wt; exact Nat.le_refl _
 | f + 1, r, h => by
  simp only [Proofs.YtmolmbeeoecnfaaGreatDoor.rtF] at h ⊢
  split
  ·rename_i h1
   rw [if_pos h1] at h
   split
   ·rename_i h2
    rw [if_pos h2] at h
    refine Wt.trans ?_ (Wt.rtF f _ h)
    have h3 := rtP_wt h2
    unfold Wt
    simp only [tW_app, tW]
    omega
   ·rename_i h2
    rw [if_neg h2] at h; cases h
  ·unfold Wt; exact Nat.le_refl _
theorem Wt.riF {s : ByteArray} {g : Rn → Bool × Rn} (hg : ∀ q, (g q).1 = true → Wt q (g q).2) : ∀ (f n : Nat) (r : Rn), (riF s g f n r).1 = true → Wt r (riF s g f n r).2.2
 | 0, n, r, h => by unfold Wt; exact Nat.le_refl _
 | f + 1, n, r, h => by
  simp only [Proofs.YtmolmbeeoecnfaaGreatDoor.riF] at h ⊢
  split
  ·rename_i h1
   rw [if_pos h1] at h
   split
   ·rename_i h2
    rw [if_pos h2] at h
    exact (hg r h2).trans (Wt.riF hg f _ _ h)
   ·rename_i h2
    rw [if_neg h2] at h; cases h
  ·unfold Wt; exact Nat.le_refl _
theorem Wt.riP {s : ByteArray} {g : Rn → Bool × Rn} (hg : ∀ q, (g q).1 = true → Wt q (g q).2) (fin : UInt8) (least : Nat) (r : Rn) (h : (riP s g fin least r).1 = true) : Wt r (riP s g fin least r).2 := by
 unfold Proofs.YtmolmbeeoecnfaaGreatDoor.riP at h ⊢
 split at h
 ·cases h
 ·rename_i h1
  rw [if_neg h1]
  split at h
  ·cases h
  ·rename_i h2
   rw [if_neg h2]
   have h3 : Wt { r with i := r.i + 1 } (riL s g 0 { r with i := r.i + 1 }).2.2 := Wt.riF hg _ 0 { r with i := r.i + 1 } (by have h9 : (riL s g 0 { r with i := r.i + 1 }).1 = true := by { simpa using h1 }; exact h9)
   unfold Wt at h3 ⊢
   simp only at h3 ⊢
   omega
theorem Wt.rsF {s : ByteArray} : ∀ (f : Nat) (r : Rn) (outer : Int) (depth : Nat), (rsF s f r outer depth).1 = true → Wt r (rsF s f r outer depth).2
 | 0, r, _, _, h => by unfold Wt; exact Nat.le_refl _
 | f + 1, r, outer, depth, h => by
  simp only [Proofs.YtmolmbeeoecnfaaGreatDoor.rsF] at h ⊢
  split at h
  ·cases h
  ·rename_i h1
   rw [if_neg h1]
   split at h
   ·cases h
   ·rename_i h2
    rw [if_neg h2]
    split at h
    ·cases h
    ·rename_i h3
     rw [if_neg h3]
     have w3 : Wt r (rs3 s r.st.length (rs1 s r outer depth)) := by
      have e : (rs3 s r.st.length (rs1 s r outer depth)).st = r.st ++ [⟨byte s r.i, r.i, depth, 0, outer, 0, abS s 43 (r.i + 1), abS s 45 (abI s 43 (r.i + 1)), false, false⟩] := by
       show ((r.st ++ [_]).modify r.st.length _).modify r.st.length _ = _
       rw [modify_lastQ, modify_lastQ]
       rfl
      have e2 : (rs3 s r.st.length (rs1 s r outer depth)).tr = r.tr := rfl
      have e3 : (rs3 s r.st.length (rs1 s r outer depth)).i = abI s 45 (abI s 43 (r.i + 1)) := rfl
      unfold Wt
      rw [e, e2, e3, sW_app]
      have a1 := ab_wt s 43 (r.i + 1)
      have a2 := ab_wt s 45 (abI s 43 (r.i + 1))
      simp only [sW]
      omega
     have hk : ∀ kk, Wt r (setKP (rs3 s r.st.length (rs1 s r outer depth)) r.st.length kk) := fun kk => by
      unfold Wt at w3 ⊢
      have e : sW (setKP (rs3 s r.st.length (rs1 s r outer depth)) r.st.length kk).st = sW (rs3 s r.st.length (rs1 s r outer depth)).st := sW_modify (fun x => { x with kind := kk }) (fun x => ⟨rfl, rfl⟩) _ _
      rw [e]; exact w3
     have w4 : (rs4 s (fun q => Proofs.YtmolmbeeoecnfaaGreatDoor.rsF s f q (r.st.length : Nat) (depth + 1)) r.st.length (rs3 s r.st.length (rs1 s r outer depth))).1 = true → Wt r (rs4 s (fun q => Proofs.YtmolmbeeoecnfaaGreatDoor.rsF s f q (r.st.length : Nat) (depth + 1)) r.st.length (rs3 s r.st.length (rs1 s r outer depth))).2 := by
      intro h4
      unfold rs4 at h4 ⊢
      split at h4
      ·rename_i c1
       rw [if_pos c1]
       exact (hk 1).trans (Wt.riP (fun q hq => Wt.rsF f q _ _ hq) _ _ _ h4)
      ·rename_i c1
       rw [if_neg c1]
       split at h4
       ·rename_i c2
        rw [if_pos c2]
        exact (hk 2).trans (Wt.riP (fun q hq => Wt.rsF f q _ _ hq) _ _ _ h4)
       ·rename_i c2
        rw [if_neg c2]
        exact w3
     generalize rs4 s (fun q => Proofs.YtmolmbeeoecnfaaGreatDoor.rsF s f q (r.st.length : Nat) (depth + 1)) r.st.length (rs3 s r.st.length (rs1 s r outer depth)) = q4 at *
     unfold rs5 at h ⊢
     split at h
     ·rename_i c; rw [c] at h; cases h
     ·rename_i c
      rw [if_neg c]
      refine (w4 (by simpa using c)).trans ?_
      have h5 := Wt.rtF _ _ h
      unfold Wt at h5 ⊢
      have e : sW (setEP q4.2 r.st.length q4.2.st.length).st = sW q4.2.st := sW_modify (fun x => { x with end_ := q4.2.st.length }) (fun x => ⟨rfl, rfl⟩) _ _
      rw [e] at h5
      exact h5
theorem sW_mark1 (st : List StP) (t : TrQ) : sW (mark1 st t) = sW st := by
 unfold Proofs.YtmolmbeeoecnfaaGreatDoor.mark1
 split
 ·rfl
 ·split
  ·rw [sW_modify setWh (fun x => ⟨rfl, rfl⟩), sW_modify setRem (fun x => ⟨rfl, rfl⟩)]
  ·rw [sW_modify setRem (fun x => ⟨rfl, rfl⟩)]
theorem sW_fold : ∀ (tr : List TrQ) (st : List StP), sW (tr.foldl mark1 st) = sW st
 | [], st => rfl
 | t :: tr, st => by rw [List.foldl_cons, sW_fold tr, sW_mark1]
theorem tW_map (st : List StP) : ∀ l : List TrQ, tW (l.map (resQ st)) = tW l
 | [] => rfl
 | t :: l => by
  show 4 + (resQ st t).acts.size + tW (l.map (resQ st)) = _
  rw [tW_map st l]; rfl
theorem un_wt {s : ByteArray} (h : (unE s).1 = 0) : sW (unSt s) + tW (unTr s) ≤ 160 := by
 obtain ⟨h160, hK, -⟩ := unE_ok h
 have hok : (rcR s).1 = true := by
  simp only [rcK, Bool.and_eq_true] at hK
  exact hK.1
 have hi : (rcR s).2.i = s.size := by
  simp only [rcK, Bool.and_eq_true, beq_iff_eq] at hK
  exact hK.2
 have hw : Wt R0 (rcR s).2 := Wt.rsF _ _ _ _ hok
 unfold unSt unTr
 rw [sW_fold, tW_map]
 unfold Wt at hw
 have e : sW R0.st + tW R0.tr = 0 := rfl
 rw [hi, e] at hw
 have : R0.i = 0 := rfl
 omega
theorem enS_sW : ∀ (st : List StP), EnS st st.length + LeS st st.length = sW st := by
  have key : ∀ (n : Nat) (st : List StP), st.length = n → EnS st st.length + LeS st st.length = sW st := by
    intro n
    induction n with
    | zero => intro st h; have : st = [] := List.eq_nil_of_length_eq_zero h
              subst this; rfl
    | succ n ih =>
      intro st h
      obtain ⟨l, x, rfl⟩ : ∃ l x, st = l ++ [x] := ⟨st.dropLast, st.getLast (by intro e; rw [e] at h; simp at h), (List.dropLast_concat_getLast _).symm⟩
      have hl : l.length = n := by simpa using h
      have hc : ∀ k, k ≤ l.length → EnS (l ++ [x]) k = EnS l k ∧ LeS (l ++ [x]) k = LeS l k := by
        intro k
        induction k with
        | zero => intro _; exact ⟨rfl, rfl⟩
        | succ k ik =>
          intro hk
          obtain ⟨i1, i2⟩ := ik (by omega)
          have e1 : enterAt (l ++ [x]) k = enterAt l k := by unfold enterAt; rw [List.getElem?_append_left (by omega)]
          have e2 : leaveAt (l ++ [x]) k = leaveAt l k := by unfold leaveAt; rw [List.getElem?_append_left (by omega)]
          rw [EnS, EnS, LeS, LeS, i1, i2, e1, e2]
          exact ⟨rfl, rfl⟩
      have e3 : enterAt (l ++ [x]) l.length = x.enter := by unfold enterAt; simp
      have e4 : leaveAt (l ++ [x]) l.length = x.leave := by unfold leaveAt; simp
      rw [List.length_append, List.length_singleton, EnS, LeS, (hc l.length (Nat.le_refl _)).1, (hc l.length (Nat.le_refl _)).2, e3, e4, sW_app]
      have := ih l hl
      simp only [sW]
      omega
  exact fun st => key _ st rfl

def sN (g : Nat → Nat) : List Nat → Nat
 | [] => 0
 | n :: l => g n + sN g l
def rN (g : Nat → Nat) : Nat → Nat
 | 0 => 0
 | k + 1 => rN g k + g k
theorem sN_app (g : Nat → Nat) : ∀ l m : List Nat, sN g (l ++ m) = sN g l + sN g m
 | [], m => by simp [sN]
 | x :: l, m => by simp only [List.cons_append, sN, sN_app g l m]; omega
theorem sN_le (g : Nat → Nat) : ∀ (L : Nat) (ns : List Nat), ns.Nodup → (∀ n ∈ ns, n < L) → sN g ns ≤ rN g L
  | 0, ns, _, h => by
    cases ns with
    | nil => exact Nat.le_refl _
    | cons a l => exact absurd (h a (by simp)) (by omega)
  | L + 1, ns, hn, h => by
    by_cases hL : L ∈ ns
    · obtain ⟨a, b, rfl⟩ := List.append_of_mem hL
      have hn2 : (a ++ b).Nodup := by
        rw [List.nodup_append] at hn ⊢
        obtain ⟨n1, n2, n3⟩ := hn
        rw [List.nodup_cons] at n2
        exact ⟨n1, n2.2, fun x hx y hy => n3 x hx y (by simp [hy])⟩
      have hne : ∀ n ∈ a ++ b, n ≠ L := by
        intro n hn3 e
        subst e
        rw [List.nodup_append] at hn
        obtain ⟨n1, n2, n3⟩ := hn
        rcases List.mem_append.1 hn3 with h4 | h4
        · exact n3 n h4 n (by simp) rfl
        · rw [List.nodup_cons] at n2
          exact n2.1 h4
      have ih := sN_le g L (a ++ b) hn2 (fun n hn3 => by
        have h5 := h n (by rcases List.mem_append.1 hn3 with h4 | h4 <;> simp [h4])
        have h6 := hne n hn3
        omega)
      rw [sN_app] at ih ⊢
      rw [sN, rN]
      omega
    · have ih := sN_le g L ns hn (fun n hn3 => by
        have h5 := h n hn3
        have h6 : n ≠ L := fun e => hL (e ▸ hn3)
        omega)
      rw [rN]; omega
def wE (X : Nat) (ev : UInt8) : List TrH → Nat
 | [] => 0
 | t :: l => (if t.q.event = ev then X + t.q.acts.size else 0) + wE X ev l
def wN (th : List TrH) (X : Nat) (ev : UInt8) (n : Nat) : Nat := match th[n]? with | some t => if t.q.event = ev then X + t.q.acts.size else 0 | none => 0
theorem wE_app (X : Nat) (ev : UInt8) : ∀ l m : List TrH, wE X ev (l ++ m) = wE X ev l + wE X ev m
 | [], m => by simp [wE]
 | x :: l, m => by simp only [List.cons_append, wE, wE_app X ev l m]; omega
theorem wE_rN (th : List TrH) (X : Nat) (ev : UInt8) : ∀ k, k ≤ th.length → rN (wN th X ev) k = wE X ev (th.take k)
 | 0, _ => by simp [rN, wE]
 | k + 1, h => by
  obtain ⟨t, ht⟩ : ∃ t, th[k]? = some t := ⟨_, List.getElem?_eq_getElem (by omega)⟩
  rw [rN, wE_rN th X ev k (by omega), List.take_add_one, ht, wE_app]
  unfold wN
  rw [ht]
  simp [wE]
theorem fpo_ev {th : List TrH} {act : List Bool} {s : Nat} {ev : UInt8} (h : fpo th act s ev ≠ -1) : ∃ t, th[(fpo th act s ev).toNat]? = some t ∧ t.q.event = ev := by
 unfold fpo at h ⊢
 rcases firstB_spec (posB th act s ev) th.length with ⟨h1, -⟩ | ⟨k, h1, h2, h3, -⟩
 ·rw [h1] at h; exact absurd rfl h
 ·rw [h1]
  unfold posB at h3
  split at h3
  ·rename_i t hx
   simp only [Bool.and_eq_true, beq_iff_eq] at h3
   exact ⟨t, by simpa using hx, h3.2.1⟩
  ·cases h3
theorem cfF_ev {st : List StP} {th : List TrH} {act : List Bool} {ev : UInt8} : ∀ (f : Nat) (s : Int), cfF st th act ev f s ≠ -1 → ∃ t, th[(cfF st th act ev f s).toNat]? = some t ∧ t.q.event = ev
 | 0, s, h => absurd rfl h
 | f + 1, s, h => by
  unfold cfF at h ⊢
  split at h
  ·exact absurd rfl h
  ·rename_i h1
   rw [if_neg h1]
   split at h
   ·rename_i h2
    rw [if_pos h2]
    exact fpo_ev h2
   ·rename_i h2
    rw [if_neg h2]
    exact cfF_ev f _ h
theorem amng_no : ∀ (l : List Nat) (k : Nat), amng l k = false → k ∉ l := by
 intro l k h hk
 obtain ⟨j, hj⟩ := List.mem_iff_getElem?.1 hk
 unfold amng at h
 rcases firstB_spec (isAt l k) l.length with ⟨-, h2⟩ | ⟨m, h1, -⟩
 ·have h3 := h2 j (List.getElem?_eq_some_iff.1 hj).1
  unfold isAt at h3
  rw [hj] at h3
  simp at h3
 ·rw [h1] at h; cases h
theorem clK_nd (st : List StP) (th : List TrH) (act : List Bool) (ev : UInt8) : ∀ k, (clK st th act ev k).Nodup ∧ ∀ n ∈ clK st th act ev k, ∃ t, th[n]? = some t ∧ t.q.event = ev
 | 0 => ⟨by simp [clK], fun n hn => by simp [clK] at hn⟩
 | k + 1 => by
  obtain ⟨h1, h2⟩ := clK_nd st th act ev k
  rw [clK_succ]
  unfold cl1
  split
  ·split
   ·rename_i hc
    refine ⟨?_, ?_⟩
    ·rw [List.nodup_append]
     refine ⟨h1, by simp, fun a ha b hb => ?_⟩
     simp only [List.mem_cons, List.not_mem_nil, or_false] at hb
     subst hb
     intro e
     exact amng_no _ _ hc.2 (e ▸ ha)
    ·intro n hn
     rcases List.mem_append.1 hn with h3 | h3
     ·exact h2 n h3
     ·simp only [List.mem_cons, List.not_mem_nil, or_false] at h3
      subst h3
      exact cfF_ev _ _ hc.1
   ·exact ⟨h1, h2⟩
  ·exact ⟨h1, h2⟩
theorem wcF_sub (st : List StP) (th : List TrH) (act : List Bool) : ∀ (ns : List Nat) (z : List Nat × List Bool), ∃ m, (ns.foldl (wc1 st th act) z).1 = z.1 ++ m ∧ m.Sublist ns
 | [], z => ⟨[], by simp, List.Sublist.refl _⟩
 | a :: r, z => by
  rw [List.foldl_cons]
  obtain ⟨m, e, hs⟩ := wcF_sub st th act r (wc1 st th act z a)
  have hc : (wc1 st th act z a).1 = z.1 ∨ (wc1 st th act z a).1 = z.1 ++ [a] := by
   unfold wc1
   split
   ·split
    ·exact Or.inl rfl
    ·exact Or.inr rfl
   ·exact Or.inl rfl
  rcases hc with hc | hc
  ·exact ⟨m, by rw [e, hc], hs.cons a⟩
  ·exact ⟨a :: m, by rw [e, hc]; simp, hs.cons_cons a⟩
theorem tkn_nd (st : List StP) (th : List TrH) (act : List Bool) (ev : UInt8) : (tkn st th act ev).Nodup ∧ ∀ n ∈ tkn st th act ev, ∃ t, th[n]? = some t ∧ t.q.event = ev := by
 obtain ⟨m, e, hs⟩ := wcF_sub st th act (clL st th act ev) ([], noSet)
 have h := clK_nd st th act ev st.length
 have e2 : tkn st th act ev = m := by
  show (List.foldl (wc1 st th act) ([], noSet) (clL st th act ev)).1 = m
  rw [e]; simp
 rw [e2]
 exact ⟨hs.nodup h.1, fun n hn => h.2 n (hs.subset hn)⟩
theorem fold_wt {st : List StP} {th : List TrH} (ht : Tr st) (hT : ∀ t ∈ th, TrOk st t.q) (ev : UInt8) : ∀ (ns : List Nat) (p : Py), (∀ n ∈ ns, ∃ t, th[n]? = some t ∧ t.q.event = ev) → (ns.foldl (tk1 st th) p).out.length ≤ p.out.length + sN (wN th (sW st) ev) ns
 | [], p, _ => Nat.le_refl _
 | n :: ns, p, h => by
  rw [List.foldl_cons]
  refine Nat.le_trans (fold_wt ht hT ev ns _ (fun m hm => h m (by simp [hm]))) ?_
  obtain ⟨t, hx, he⟩ := h n (by simp)
  have h1 := tkF_olen ht t.q p (hT t (List.mem_of_getElem? hx))
  have h2 := enS_sW st
  have e : tk1 st th p n = tkF st t.q p := by unfold tk1; rw [hx]
  have e2 : wN th (sW st) ev n = sW st + t.q.acts.size := by unfold wN; rw [hx]; simp [he]
  rw [e, sN, e2]
  omega
theorem spS_wt {st : List StP} {th : List TrH} (ht : Tr st) (hT : ∀ t ∈ th, TrOk st t.q) (ev : UInt8) (x : Sx) : (spS st th ev x).out.length ≤ wE (sW st) ev th := by
 unfold spS spF
 have h1 := tkn_nd st th x.1 ev
 have h2 := fold_wt ht hT ev (tkn st th x.1 ev) ⟨x.1, x.2, []⟩ h1.2
 have h3 := sN_le (wN th (sW st) ev) th.length _ h1.1 (fun n hn => by obtain ⟨t, hx, -⟩ := h1.2 n hn; exact (List.getElem?_eq_some_iff.1 hx).1)
 rw [wE_rN th _ _ _ (Nat.le_refl _), List.take_length] at h3
 simp only [List.length_nil, Nat.zero_add] at h2
 exact Nat.le_trans h2 h3

def wR (X : Nat) (th : List TrH) : List UInt8 → Nat
 | [] => 0
 | e :: l => wE X e th + wR X th l
def tV (X : Nat) : List TrH → Nat
 | [] => 0
 | t :: l => X + t.q.acts.size + tV X l
theorem rise_lt : ∀ (l : List UInt8) (p : UInt8), Rise p l → ∀ c ∈ l, p < c
 | [], p, _, c, hc => by simp at hc
 | a :: l, p, h, c, hc => by
  obtain ⟨-, h1, h2⟩ := h
  rcases List.mem_cons.1 hc with e | e
  ·rw [e]; exact h1
  ·exact UInt8.lt_trans h1 (rise_lt l a h2 c e)
def one (ev : UInt8) (v : Nat) : List UInt8 → Nat
 | [] => 0
 | e :: l => (if ev = e then v else 0) + one ev v l
theorem one_no (ev : UInt8) (v : Nat) : ∀ l : List UInt8, ev ∉ l → one ev v l = 0
 | [], _ => rfl
 | e :: l, h => by
  rw [one, if_neg (by intro x; exact h (by simp [x])), one_no ev v l (fun x => h (by simp [x]))]
theorem one_le (ev : UInt8) (v : Nat) : ∀ (l : List UInt8) (p : UInt8), Rise p l → one ev v l ≤ v
 | [], p, _ => Nat.zero_le _
 | e :: l, p, h => by
  obtain ⟨-, h1, h2⟩ := h
  rw [one]
  split
  ·rename_i c
   rw [one_no ev v l (fun x => by
    have := rise_lt l e h2 ev x
    rw [c] at this
    exact absurd this (UInt8.lt_irrefl _))]
   omega
  ·have := one_le ev v l e h2
   omega
theorem wR_cons (X : Nat) (t : TrH) (th : List TrH) : ∀ l : List UInt8, wR X (t :: th) l = one t.q.event (X + t.q.acts.size) l + wR X th l
 | [] => rfl
 | e :: l => by
  simp only [wR, wE, one, wR_cons X t th l]
  omega
theorem wR_nil (X : Nat) : ∀ l : List UInt8, wR X [] l = 0
 | [] => rfl
 | e :: l => by simp only [wR, wE, wR_nil X l]
theorem wR_le (X : Nat) (l : List UInt8) (h : Rise 0 l) : ∀ th : List TrH, wR X th l ≤ tV X th
 | [] => by rw [wR_nil]; exact Nat.zero_le _
 | t :: th => by
  rw [wR_cons, tV]
  have := one_le t.q.event (X + t.q.acts.size) l 0 h
  have := wR_le X l h th
  omega
theorem tV_le (X : Nat) : ∀ th : List TrH, 4 * th.length ≤ tW (th.map TrH.q) ∧ tV X th + 4 * th.length = th.length * X + tW (th.map TrH.q)
 | [] => by simp [tV, tW]
 | t :: th => by
  obtain ⟨h1, h2⟩ := tV_le X th
  simp only [List.map_cons, tW, tV, List.length_cons, Nat.succ_mul]
  omega
theorem prod_le : ∀ n, n < 41 → n * (160 - 4 * n) ≤ 1600 := by decide
theorem tV_bd {X : Nat} {th : List TrH} (h : X + tW (th.map TrH.q) ≤ 160) : tV X th ≤ 1760 := by
 obtain ⟨h1, h2⟩ := tV_le X th
 have h3 := prod_le th.length (by omega)
 have h4 : th.length * X ≤ th.length * (160 - 4 * th.length) := Nat.mul_le_mul_left _ (by omega)
 omega
theorem dec_len2 (n : Nat) (h : n < 100) : (Lib.decDigits n).length ≤ 2 := by
 by_cases h1 : n < 10
 ·rw [Lib.decDigits, dif_pos h1]; simp
 ·rw [Lib.decDigits, dif_neg h1, Lib.decDigits, dif_pos (show n / 10 < 10 by omega)]; simp
theorem txR_len : ∀ (C : List Cl) (b : Bool), (∀ c ∈ C, c.dst < 100) → (txR b C).length ≤ 4 * C.length + (C.map fun c => c.acts.size).sum
 | [], b, _ => by simp [txR]
 | c :: r, b, h => by
  have ih := txR_len r false (fun d hd => h d (by simp [hd]))
  have h1 := dec_len2 c.dst (h c (by simp))
  have h2 : (clT c).length = (Lib.decDigits c.dst).length + 1 + c.acts.size := by
   have : c.acts.data.toList.length = c.acts.size := rfl
   rw [← this]
   simp [clT]; omega
  have h3 : (if b = true then ([] : List UInt8) else [44]).length ≤ 1 := by cases b <;> simp
  simp only [txR, List.length_append, List.length_cons, List.map_cons, List.sum_cons]
  omega
theorem rtT_len (B : Nat) : ∀ l : List Rtx, (∀ r ∈ l, r.txt.length ≤ B) → (rtT l).length ≤ l.length * (B + 1)
 | [], _ => by simp [rtT]
 | r :: l, h => by
  have ih := rtT_len B l (fun x hx => h x (by simp [hx]))
  have := h r (by simp)
  simp only [rtT, List.length_append, List.length_cons, List.length_nil, Nat.succ_mul]
  omega
section
variable {st : List StP} {th : List TrH} {lim : Int} {l : List Sx} {Cs : List (List Cl)} (hT : CoT st th lim l Cs) (hl : lim ≤ 99) (ht : Tr st) (hk : ∀ t ∈ th, TrOk st t.q) (hw : sW st + tW (th.map TrH.q) ≤ 160)
include hT hl ht hk hw
theorem CoT.row_len {i : Nat} {C : List Cl} (hC : Cs[i]? = some C) : (txR true C).length ≤ 1864 := by
 obtain ⟨x, h1, h2, h3⟩ := hT.ci.ce i C hC
 have hd : ∀ c ∈ C, c.dst < 100 := by
  intro c hc
  obtain ⟨k, hk2⟩ := List.mem_iff_getElem?.1 hc
  have := hT.dst hC hk2
  have := hT.lm
  omega
 have h4 := txR_len C true hd
 have hes := evS_size th
 have hsum : ∀ (D : List Cl) (es : List UInt8), D.length = es.length → (∀ (k : Nat) (c : Cl) (e : UInt8), D[k]? = some c → es[k]? = some e → c.acts.size ≤ wE (sW st) e th) → (D.map fun c => c.acts.size).sum ≤ wR (sW st) th es := by
  intro D
  induction D with
  | nil => intro es _ _; exact Nat.zero_le _
  | cons c D ih =>
   intro es he hh
   cases es with
   | nil => simp at he
   | cons e es =>
    have a1 := hh 0 c e rfl rfl
    have a2 := ih es (by simpa using he) (fun k c' e' q1 q2 => hh (k + 1) c' e' (by simpa using q1) (by simpa using q2))
    simp only [List.map_cons, List.sum_cons, wR]
    omega
 have h5 := hsum C (bls (evS th)) h2 (fun k c e q1 q2 => by
  obtain ⟨-, g2⟩ := h3 k c q1
  have he : byte (evS th) k = e := by
   have hk2 : k < (evS th).size := by have := (List.getElem?_eq_some_iff.1 q2).1; rw [bls_len] at this; exact this
   have h9 := List.getElem?_eq_some_iff.1 q2
   rw [byte_in _ _ hk2, ← h9.2]
   rfl
  rw [g2, he]
  have := spS_wt ht hk e x
  show (spS st th e x).out.toArray.size ≤ _
  simpa using this)
 have hr : Rise 0 (bls (evS th)) := by
  have : bls (evS th) = evP th 26 := by simp [bls, evS]
  rw [this]; exact evP_rise th 26 (Nat.le_refl _)
 have h6 := wR_le (sW st) _ hr th
 have h7 := tV_bd hw
 have h8 : (bls (evS th)).length = (evS th).size := by rw [bls_len]
 omega
theorem CoT.len_ok : (taK (evS th) ⟨(begP st).out.toArray⟩ (Cs.map txC) Cs.length).length ≤ 600000 := by
 rw [taK_tb _ _ Cs Cs.length (Nat.le_refl _)]
 have hb : (begP st).out.length ≤ 160 := by
  have h1 := enF_olen ht 26 0 Am.free py0 ht.s0
  have h2 := enS_sW st
  have h3 := EnS_mono st (ht.end_gt ht.s0).2
  have e : (py0.out).length = 0 := rfl
  unfold begP
  omega
 have hes := evS_size th
 have h8 : (bls (evS th)).length = (evS th).size := by rw [bls_len]
 have hbl : (bls (⟨(begP st).out.toArray⟩ : ByteArray)).length ≤ 160 := by
  have : bls (⟨(begP st).out.toArray⟩ : ByteArray) = (begP st).out := by simp [bls]
  rw [this]; exact hb
 have hr := rtT_len 1864 ((List.range Cs.length).map (rtOf Cs)) (fun r hr => by
  obtain ⟨i, hi, rfl⟩ := List.mem_map.1 hr
  have hi' : i < Cs.length := by simpa using hi
  obtain ⟨C, hC⟩ : ∃ C, Cs[i]? = some C := ⟨_, List.getElem?_eq_getElem hi'⟩
  unfold rtOf
  rw [hC]
  simp only
  split
  ·rename_i hlt
   have h1 := hT.lm
   have h2 := hT.len
   have h3 := dec_len2 (fiR (Cs.map txC) (txC C)) (by omega)
   show (61 :: Lib.decDigits _).length ≤ _
   rw [List.length_cons]
   omega
  ·exact hT.row_len hl ht hk hw hC)
 have h1 := hT.lm
 have h2 := hT.len
 simp only [List.length_map, List.length_range] at hr
 have h9 : Cs.length * (1864 + 1) ≤ 99 * (1864 + 1) := Nat.mul_le_mul_right _ (by omega)
 simp only [tbT, List.length_append, List.length_cons, List.length_nil]
 omega
end
end Go.Proofs.YtmolmbeeoecnfaaGreatDoor
