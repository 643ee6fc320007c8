/- Own work: CoR, CoR2. -/
import Derived.Test.YtmolmbeeoecnfaaGreatDoorF25
import Derived.Lib.ItoaNum
/- Own work: plain: a table's text, as the compiler writes it, is read back. Names nothing of the program. -/
namespace Go.Proofs.YtmolmbeeoecnfaaGreatDoor
set_option linter.unusedVariables false
set_option linter.unusedSimpArgs false

structure At (s : ByteArray) (i : Nat) (l : List UInt8) : Prop where
 b : ∀ j c, l[j]? = some c → byte s (i + j) = c
 e : i + l.length ≤ s.size
theorem At.left {s : ByteArray} {i : Nat} {l m : List UInt8} (h : At s i (l ++ m)) : At s i l :=
 ⟨fun j c hj => h.b j c (by rw [List.getElem?_append_left (List.getElem?_eq_some_iff.1 hj).1]; exact hj), by have := h.e; rw [List.length_append] at this; omega⟩
theorem At.right {s : ByteArray} {i : Nat} {l m : List UInt8} (h : At s i (l ++ m)) : At s (i + l.length) m :=
 ⟨fun j c hj => by
  have := h.b (l.length + j) c (by rw [List.getElem?_append_right (by omega), show l.length + j - l.length = j by omega]; exact hj)
  rwa [← Nat.add_assoc] at this, by have := h.e; rw [List.length_append] at this; omega⟩
theorem At.head {s : ByteArray} {i : Nat} {c : UInt8} {l : List UInt8} (h : At s i (c :: l)) : byte s i = c := by have := h.b 0 c rfl; simpa using this
theorem At.whole (l : List UInt8) : At ⟨l.toArray⟩ 0 l := by
 refine ⟨fun j c hj => ?_, by show 0 + l.length ≤ l.toArray.size; simp⟩
 obtain ⟨h1, h2⟩ := List.getElem?_eq_some_iff.1 hj
 have h3 : j < (⟨l.toArray⟩ : ByteArray).size := by show j < l.toArray.size; simpa using h1
 rw [Nat.zero_add, byte_in _ _ h3]
 show l.toArray[j] = c
 simpa using h2
theorem At.cut {s : ByteArray} {i : Nat} {l : List UInt8} (h : At s i l) : cut s i (i + l.length) = ⟨l.toArray⟩ := by
 unfold Proofs.YtmolmbeeoecnfaaGreatDoor.cut
 congr 2
 apply List.ext_getElem?
 intro j
 have he := h.e
 by_cases hj : j < l.length
 ·rw [List.getElem?_take_of_lt (by omega), List.getElem?_drop]
  have h1 := h.b j l[j] (List.getElem?_eq_getElem hj)
  have h2 : i + j < s.size := by omega
  rw [byte_in _ _ h2] at h1
  rw [List.getElem?_eq_getElem hj, ← h1]
  have h3 : i + j < s.data.toList.length := by simpa using h2
  rw [List.getElem?_eq_getElem h3]
  simp
  rfl
 ·rw [List.getElem?_eq_none (by rw [List.length_take]; omega), List.getElem?_eq_none (by omega)]
theorem isD_iffB (c : UInt8) : isD c = true ↔ 48 ≤ c.toNat ∧ c.toNat ≤ 57 := by rw [isD_iff]; omega
theorem dend_at {s : ByteArray} : ∀ (l : List UInt8) (i : Nat), At s i l → (∀ c ∈ l, isD c = true) → isD (byte s (i + l.length)) = false → dend s i = i + l.length
 | [], i, _, _, h => dend_stop s i (by simpa using h)
 | c :: l, i, ha, hd, h => by
  have h1 := ha.head
  have h2 := dend_go s i (by rw [h1]; exact hd c (by simp))
  have h3 : At s (i + 1) l := (show At s i ([c] ++ l) from ha).right
  have h4 := dend_at l (i + 1) h3 (fun d hd' => hd d (by simp [hd'])) (by rw [show i + 1 + l.length = i + (c :: l).length by simp; omega]; exact h)
  rw [h2.2, h4]; simp; omega
theorem nvF_last (s : ByteArray) : ∀ (f i m : Nat), nvF s (f + 1) i m = if nvF s f i m < 1000000 then nvF s f i m * 10 + dgt (byte s (i + f)) else nvF s f i m
 | 0, i, m => rfl
 | f + 1, i, m => by
  have ih := nvF_last s f (i + 1) (if m < 1000000 then m * 10 + dgt (byte s i) else m)
  rw [show i + 1 + f = i + (f + 1) by omega] at ih
  exact ih
theorem dec_ne (u : Nat) : Lib.decDigits u ≠ [] := by
 intro h
 have h1 := Lib.decDigits_length u
 have h2 := Lib.nDigits_pos u
 rw [h] at h1
 simp at h1
 omega
theorem dec_dig : ∀ u : Nat, ∀ c ∈ Lib.decDigits u, isD c = true := by
 intro u
 induction u using Nat.strongRecOn with
 | _ u ih =>
  intro c hc
  have key : ∀ v, v < 10 → isD (UInt8.ofNat (48 + v)) = true := fun v hv => by
   rw [isD_iffB, UInt8.toNat_ofNat', Nat.mod_eq_of_lt (by omega)]; omega
  by_cases h : u < 10
  ·rw [Lib.decDigits, dif_pos h] at hc
   simp only [List.mem_cons, List.not_mem_nil, or_false] at hc
   rw [hc]; exact key u h
  ·rw [Lib.decDigits, dif_neg h] at hc
   rcases List.mem_append.1 hc with h1 | h1
   ·exact ih (u / 10) (by omega) c h1
   ·simp only [List.mem_cons, List.not_mem_nil, or_false] at h1
    rw [h1]; exact key _ (by omega)
theorem dgt_of {v : Nat} (h : v < 10) : dgt (UInt8.ofNat (48 + v)) = v := by
 unfold dgt; rw [UInt8.toNat_ofNat', Nat.mod_eq_of_lt (by omega)]; omega
theorem num_val {s : ByteArray} {i : Nat} : ∀ u : Nat, 0 < u → u < 1000000 → At s i (Lib.decDigits u) → nvF s ((Lib.decDigits u).length - 1) (i + 1) (dgt (byte s i)) = u ∧ byte s i ≠ 48 := by
 intro u
 induction u using Nat.strongRecOn with
 | _ u ih =>
  intro h0 hu ha
  by_cases h : u < 10
  ·rw [Lib.decDigits, dif_pos h] at ha ⊢
   have h1 := ha.head
   rw [h1]
   refine ⟨by simp only [List.length_cons, List.length_nil, nvF]; exact dgt_of h, fun e => ?_⟩
   have h2 := congrArg UInt8.toNat e
   rw [UInt8.toNat_ofNat', Nat.mod_eq_of_lt (by omega)] at h2
   have : (48 : UInt8).toNat = 48 := rfl
   omega
  ·rw [Lib.decDigits, dif_neg h] at ha ⊢
   obtain ⟨q1, q2⟩ := ih (u / 10) (by omega) (by omega) (by omega) ha.left
   have hl : 0 < (Lib.decDigits (u / 10)).length := List.length_pos_iff.2 (dec_ne _)
   obtain ⟨m, hm⟩ : ∃ m, (Lib.decDigits (u / 10)).length = m + 1 := ⟨_, (Nat.succ_pred_eq_of_pos hl).symm⟩
   have h2 := ha.right.head
   refine ⟨?_, q2⟩
   rw [hm] at h2
   have e1 : (Lib.decDigits (u / 10) ++ [UInt8.ofNat (48 + u % 10)]).length - 1 = m + 1 := by rw [List.length_append, hm]; simp
   have e2 : (Lib.decDigits (u / 10)).length - 1 = m := by omega
   rw [e2] at q1
   rw [e1, nvF_last, q1, if_pos (by omega), show i + 1 + m = i + (m + 1) by omega, h2, dgt_of (by omega)]
   omega
theorem num_at {s : ByteArray} {i u : Nat} (hu : u < 1000000) (ha : At s i (Lib.decDigits u)) (hn : isD (byte s (i + (Lib.decDigits u).length)) = false) : isD (byte s i) = true ∧ nend s i = i + (Lib.decDigits u).length ∧ nval s i = u := by
 have hd : isD (byte s i) = true := by
  cases hl : Lib.decDigits u with
  | nil => exact absurd hl (dec_ne u)
  | cons c l => rw [hl] at ha; rw [ha.head]; exact dec_dig u c (by rw [hl]; simp)
 refine ⟨hd, ?_⟩
 by_cases h0 : u = 0
 ·subst h0
  have e : Lib.decDigits 0 = [48] := by rw [Lib.decDigits, dif_pos (by omega)]; rfl
  rw [e] at ha ⊢
  have h1 := ha.head
  unfold nend nval
  rw [if_pos h1, if_pos h1]
  exact ⟨rfl, rfl⟩
 ·obtain ⟨q1, q2⟩ := num_val u (by omega) hu ha
  have h3 := dend_at _ i ha (dec_dig u) hn
  unfold nend nval
  rw [if_neg q2, if_neg q2, h3, show i + (Lib.decDigits u).length - (i + 1) = (Lib.decDigits u).length - 1 by omega, q1]
  exact ⟨rfl, by omega⟩

def clT (c : Cl) : List UInt8 := (Lib.decDigits c.dst ++ [58]) ++ c.acts.data.toList
def ClG (c : Cl) : Prop := c.dst < 1000000 ∧ ∀ d ∈ c.acts.data.toList, isD d = true
theorem cell_at {s : ByteArray} {i : Nat} {c : Cl} (hc : ClG c) (ha : At s i (clT c)) (hn : isD (byte s (i + (clT c).length)) = false) : cellP s i = (true, i + (clT c).length, c) := by
 have hl : (clT c).length = (Lib.decDigits c.dst).length + 1 + c.acts.data.toList.length := by simp [clT]; omega
 have ha1 : At s i (Lib.decDigits c.dst) := ha.left.left
 have ha2 : byte s (i + (Lib.decDigits c.dst).length) = 58 := ha.left.right.head
 have ha3 : At s (i + (Lib.decDigits c.dst).length + 1) c.acts.data.toList := by
  have := ha.right
  rw [List.length_append] at this
  simpa [Nat.add_assoc] using this
 obtain ⟨n1, n2, n3⟩ := num_at hc.1 ha1 (by rw [ha2]; decide)
 have hd := dend_at _ _ ha3 hc.2 (by rw [show i + (Lib.decDigits c.dst).length + 1 + c.acts.data.toList.length = i + (clT c).length by rw [hl]; omega]; exact hn)
 unfold cellP
 rw [if_neg (by rw [n1]; decide), n2, if_neg (by rw [ha2]; simp), hd, n3, ha3.cut, hl]
 simp only [Prod.mk.injEq, true_and]
 refine ⟨by omega, ?_⟩
 cases c
 simp
def txR : Bool → List Cl → List UInt8
 | _, [] => []
 | first, c :: r => (if first = true then [] else [44]) ++ clT c ++ txR false r
theorem cells_at {s : ByteArray} : ∀ (r : List Cl) (i : Nat) (a : List Cl), (∀ c ∈ r, ClG c) → At s i (txR a.isEmpty r) → byte s (i + (txR a.isEmpty r).length) = 59 → clF s r.length i a = (true, i + (txR a.isEmpty r).length, a ++ r)
 | [], i, a, _, _, _ => by simp [clF, txR]
 | c :: r, i, a, hg, ha, hn => by
  have hne : (a ++ [c]).isEmpty = false := by simp
  have hsep : clJ a i = i + (if a.isEmpty = true then ([] : List UInt8) else [44]).length := by
   unfold clJ
   cases a with
   | nil => simp
   | cons x y => simp
  have ha1 := ha.left.right
  rw [← hsep] at ha1
  have ha2 := ha.right
  rw [List.length_append, ← Nat.add_assoc, ← hsep] at ha2
  have hlen : i + (txR a.isEmpty (c :: r)).length = clJ a i + (clT c).length + (txR false r).length := by
   rw [hsep, txR, List.length_append, List.length_append]; omega
  rw [hlen] at hn ⊢
  have hnx : isD (byte s (clJ a i + (clT c).length)) = false := by
   cases r with
   | nil =>
    simp only [txR, List.length_nil, Nat.add_zero] at hn
    rw [hn]; decide
   | cons d r =>
    have h1 : byte s (clJ a i + (clT c).length) = 44 := by
     have h2 : txR false (d :: r) = 44 :: (clT d ++ txR false r) := by simp [txR]
     rw [h2] at ha2
     exact ha2.head
    rw [h1]; decide
  have hc := cell_at (hg c (by simp)) ha1 hnx
  have ih := cells_at r (clJ a i + (clT c).length) (a ++ [c]) (fun d hd => hg d (by simp [hd])) (by rw [hne]; exact ha2) (by rw [hne]; exact hn)
  rw [List.length_cons, clF, if_neg, if_neg, hc]
  ·rw [ih, hne]; simp
  ·rw [hc]; simp
  ·rintro ⟨h1, h2⟩
   apply h2
   have h3 : a.isEmpty = false := by cases a with | nil => exact absurd rfl h1 | cons x y => rfl
   have h4 := ha.left.left
   rw [h3] at h4
   simp only [Bool.false_eq_true, if_false] at h4
   exact h4.head
end Go.Proofs.YtmolmbeeoecnfaaGreatDoor

/- Own work: plain: a table's rows and its whole text, as the compiler writes them, are read back. Names nothing of the program. -/
namespace Go.Proofs.YtmolmbeeoecnfaaGreatDoor
set_option linter.unusedVariables false
set_option linter.unusedSimpArgs false

theorem row_own {s : ByteArray} {i : Nat} {C : List Cl} (hg : ∀ c ∈ C, ClG c) (ha : At s i (txR true C ++ [59])) :
  rowP s C.length i = (true, i + (txR true C).length + 1, ⟨i, -1, C, ⟨(txR true C).toArray⟩⟩) := by
 have h59 : byte s (i + (txR true C).length) = 59 := ha.right.head
 have hc := cells_at C i [] hg ha.left h59
 have h61 : byte s i ≠ 61 := by
  cases C with
  | nil => simp only [txR, List.length_nil, Nat.add_zero] at h59; rw [h59]; decide
  | cons c r =>
   have h1 : At s i (Lib.decDigits c.dst) := by
    have h2 := ha.left
    simp only [txR, if_true, List.nil_append] at h2
    exact h2.left.left.left
   cases hl : Lib.decDigits c.dst with
   | nil => exact absurd hl (dec_ne _)
   | cons d l =>
    rw [hl] at h1
    rw [h1.head]
    have h3 := dec_dig c.dst d (by rw [hl]; simp)
    intro e
    rw [e] at h3
    revert h3; decide
 unfold rowP
 simp only
 rw [if_neg h61]
 simp only [List.isEmpty_nil] at hc
 rw [hc]
 simp only [List.nil_append]
 rw [if_neg (by simp), if_neg (by rw [h59]; simp), ha.left.cut]
theorem row_same {s : ByteArray} {wd i n : Nat} (hn : n < 1000000) (ha : At s i ((61 :: Lib.decDigits n) ++ [59])) :
  rowP s wd i = (true, i + (61 :: Lib.decDigits n).length + 1, ⟨i, n, [], ⟨(61 :: Lib.decDigits n).toArray⟩⟩) := by
 have h61 : byte s i = 61 := ha.left.head
 have ha1 : At s (i + 1) (Lib.decDigits n) := (show At s i ([61] ++ Lib.decDigits n) from ha.left).right
 have h59 : byte s (i + 1 + (Lib.decDigits n).length) = 59 := by
  have := ha.right.head
  rwa [List.length_cons, show i + ((Lib.decDigits n).length + 1) = i + 1 + (Lib.decDigits n).length by omega] at this
 obtain ⟨n1, n2, n3⟩ := num_at hn ha1 (by rw [h59]; decide)
 have hcut := ha.left.cut
 rw [List.length_cons, show i + ((Lib.decDigits n).length + 1) = i + 1 + (Lib.decDigits n).length by omega] at hcut
 unfold rowP
 simp only
 rw [if_pos h61, if_neg (by rw [n1]; decide), n2, if_neg (by rw [h59]; simp), n3, hcut]
 rw [List.length_cons, show i + ((Lib.decDigits n).length + 1) = i + 1 + (Lib.decDigits n).length by omega]
inductive Rtx where
 | own (C : List Cl)
 | same (n : Nat)
def Rtx.txt : Rtx → List UInt8
 | .own C => txR true C
 | .same n => 61 :: Lib.decDigits n
def Rtx.row (p : Nat) : Rtx → Rw
 | .own C => ⟨p, -1, C, ⟨(txR true C).toArray⟩⟩
 | .same n => ⟨p, n, [], ⟨(61 :: Lib.decDigits n).toArray⟩⟩
def Rtx.G (wd : Nat) : Rtx → Prop
 | .own C => C.length = wd ∧ ∀ c ∈ C, ClG c
 | .same n => n < 1000000
theorem row_rt {s : ByteArray} {wd i : Nat} {r : Rtx} (hg : r.G wd) (ha : At s i (r.txt ++ [59])) : rowP s wd i = (true, i + r.txt.length + 1, r.row i) := by
 cases r with
 | own C => obtain ⟨h1, h2⟩ := hg; subst h1; exact row_own h2 ha
 | same n => exact row_same hg ha
def rtT : List Rtx → List UInt8
 | [] => []
 | r :: l => (r.txt ++ [59]) ++ rtT l
def rtR : Nat → List Rtx → List Rw
 | _, [] => []
 | p, r :: l => r.row p :: rtR (p + r.txt.length + 1) l
theorem rtR_len : ∀ (p : Nat) (l : List Rtx), (rtR p l).length = l.length
 | _, [] => rfl
 | p, r :: l => by simp [rtR, rtR_len _ l]
theorem rows_at {s : ByteArray} {wd : Nat} : ∀ (l : List Rtx) (f i : Nat) (a : List Rw), l ≠ [] → (∀ r ∈ l, r.G wd) → At s i (rtT l) → i + (rtT l).length = s.size → l.length ≤ f → rwF s wd f i a = (true, s.size, a ++ rtR i l)
 | [], _, _, _, h, _, _, _, _ => absurd rfl h
 | r :: l, 0, _, _, _, _, _, _, h => by simp at h
 | r :: l, f + 1, i, a, _, hg, ha, he, hf => by
  have h1 := row_rt (hg r (by simp)) ha.left
  rw [rwF, h1]
  simp only
  rw [if_neg (by simp)]
  have hlen : (rtT (r :: l)).length = r.txt.length + 1 + (rtT l).length := by simp [rtT]; omega
  have ha2 := ha.right
  rw [List.length_append] at ha2
  simp only [List.length_cons, List.length_nil] at ha2
  cases l with
  | nil =>
   have h0 : (rtT ([] : List Rtx)).length = 0 := rfl
   rw [if_neg (by omega)]
   have h3 : i + r.txt.length + 1 = s.size := by omega
   rw [h3]; rfl
  | cons r2 l =>
   have hpos : 0 < (rtT (r2 :: l)).length := by simp [rtT]; omega
   rw [if_pos (by omega)]
   have ih := rows_at (r2 :: l) f (i + r.txt.length + 1) (a ++ [r.row i]) (by simp) (fun x hx => hg x (by simp only [List.mem_cons] at hx ⊢; exact Or.inr hx)) (by rw [show i + r.txt.length + 1 = i + (r.txt.length + (0 + 1)) by omega]; exact ha2) (by omega) (by simp only [List.length_cons] at hf ⊢; omega)
   rw [ih]
   simp [rtR]
def Rise : UInt8 → List UInt8 → Prop
 | _, [] => True
 | p, c :: l => isE c = true ∧ p < c ∧ Rise c l
theorem ev_at {s : ByteArray} : ∀ (l : List UInt8) (p : UInt8) (i : Nat), At s i l → Rise p l → isE (byte s (i + l.length)) = false → evE s p i = i + l.length
 | [], p, i, _, _, h => by
  rw [evE_stop s p i (by rw [show i = i + ([] : List UInt8).length by simp, h]; simp)]; simp
 | c :: l, p, i, ha, hr, h => by
  have h1 := ha.head
  have h2 := evE_go s p i (by rw [h1]; exact ⟨hr.1, hr.2.1⟩)
  have h3 : At s (i + 1) l := (show At s i ([c] ++ l) from ha).right
  have h4 := ev_at l c (i + 1) h3 hr.2.2 (by rw [show i + 1 + l.length = i + (c :: l).length by simp; omega]; exact h)
  rw [h2.2, h1, h4]; simp; omega
def tbT (es beg : List UInt8) (l : List Rtx) : List UInt8 := ((es ++ [59]) ++ (beg ++ [59])) ++ rtT l
theorem form_at (es beg : List UInt8) (l : List Rtx) (hE : Rise 0 es) (hB : ∀ c ∈ beg, isD c = true) (hl : l ≠ []) (hg : ∀ r ∈ l, r.G es.length) :
  formP ⟨(tbT es beg l).toArray⟩ = (true, (tbT es beg l).length, ⟨⟨es.toArray⟩, ⟨beg.toArray⟩, rtR (es.length + 1 + (beg.length + 1)) l⟩) := by
 have ha := At.whole (tbT es beg l)
 have hsz : (⟨(tbT es beg l).toArray⟩ : ByteArray).size = (tbT es beg l).length := by show (tbT es beg l).toArray.size = _; simp
 generalize (⟨(tbT es beg l).toArray⟩ : ByteArray) = s at *
 have a1 : At s 0 es := ha.left.left.left
 have a2 : byte s es.length = 59 := by have := ha.left.left.right.head; simpa using this
 have a3 : At s (es.length + 1) (beg ++ [59]) := by have := ha.left.right; simpa using this
 have a4 : byte s (es.length + 1 + beg.length) = 59 := a3.right.head
 have a5 : At s (es.length + 1 + (beg.length + 1)) (rtT l) := by
  have := ha.right
  have e : (0 : Nat) + ((es ++ [(59 : UInt8)]) ++ (beg ++ [(59 : UInt8)])).length = es.length + 1 + (beg.length + 1) := by simp; omega
  rw [e] at this
  exact this
 have t1 : tev s = es.length := by
  unfold tev
  rw [ev_at es 0 0 a1 hE (by rw [Nat.zero_add, a2]; decide)]; simp
 have t2 : tbg s = es.length + 1 + beg.length := by
  unfold tbg
  rw [t1]
  exact dend_at beg _ a3.left hB (by rw [a4]; decide)
 have hlen : es.length + 1 + (beg.length + 1) + (rtT l).length = s.size := by rw [hsz]; simp [tbT]; omega
 have hrow : l.length ≤ (rtT l).length := by
  clear hl hg a5 hlen ha hsz
  induction l with
  | nil => simp
  | cons r l ih => simp only [rtT, List.length_append, List.length_cons, List.length_nil]; omega
 have hr := rows_at (wd := es.length) l (s.size + 1 - (es.length + 1 + beg.length + 1)) (es.length + 1 + (beg.length + 1)) [] hl hg a5 hlen (by omega)
 have hrl : rwL s es.length (es.length + 1 + beg.length + 1) [] = (true, s.size, rtR (es.length + 1 + (beg.length + 1)) l) := by
  unfold rwL
  rw [show es.length + 1 + beg.length + 1 = es.length + 1 + (beg.length + 1) by omega]
  rw [show es.length + 1 + beg.length + 1 = es.length + 1 + (beg.length + 1) by omega] at hr
  rw [hr]; simp
 have c1 : cut s 0 es.length = ⟨es.toArray⟩ := by have := a1.cut; simpa using this
 have c2 : cut s (es.length + 1) (es.length + 1 + beg.length) = ⟨beg.toArray⟩ := a3.left.cut
 unfold formP
 simp only
 rw [t1, if_neg (by rw [a2]; simp), t2, if_neg (by rw [a4]; simp), hrl, c1, c2, hsz]
end Go.Proofs.YtmolmbeeoecnfaaGreatDoor
