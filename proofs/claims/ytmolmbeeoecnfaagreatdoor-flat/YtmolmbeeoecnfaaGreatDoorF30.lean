/- Own work: CoR3, CoR4, TD1, TR1, TR2, TR3, TD2. -/
import Derived.Test.YtmolmbeeoecnfaaGreatDoorF26
import Derived.Test.YtmolmbeeoecnfaaGreatDoorF29
import Derived.Test.YtmolmbeeoecnfaaGreatDoorF25
import Derived.Test.YtmolmbeeoecnfaaGreatDoorF02
import Derived.Test.YtmolmbeeoecnfaaGreatDoorF03
/- Own work: plain: what the compiler's rows say. -/
namespace Go.Proofs.YtmolmbeeoecnfaaGreatDoor
open Go.RowKit Go.BigFrame
set_option linter.unusedVariables false
set_option linter.unusedSimpArgs false

def txC (C : List Cl) : ByteArray := ⟨(txR true C).toArray⟩
section
variable (st : List StP) (th : List TrH) (es : ByteArray)
def ceC (x : Sx) (l : List Sx) : Nat → List Cl
 | 0 => []
 | k + 1 => ceC x l k ++ [⟨nuS (ceK st th es x l k).1 (sxP (spS st th (byte es k) x)), ⟨(spS st th (byte es k) x).out.toArray⟩⟩]
theorem ceC_len (x : Sx) (l : List Sx) : ∀ k, (ceC st th es x l k).length = k
 | 0 => rfl
 | k + 1 => by simp [ceC, ceC_len x l k]
theorem txR_snoc : ∀ (a : List Cl) (b : Bool) (c : Cl), txR b (a ++ [c]) = (txR b a ++ (if (b && a.isEmpty) = true then [] else [44])) ++ clT c
 | [], b, c => by cases b <;> simp [txR]
 | d :: a, b, c => by
  have ih := txR_snoc a false c
  simp only [List.cons_append, txR, ih]
  simp
theorem ceK_txt (x : Sx) (l : List Sx) : ∀ k, (ceK st th es x l k).2 = txR true (ceC st th es x l k)
 | 0 => rfl
 | k + 1 => by
  have ih := ceK_txt x l k
  have he : (ceC st th es x l k).isEmpty = decide (k = 0) := by
   have := ceC_len st th es x l k
   cases h : ceC st th es x l k with
   | nil => rw [h] at this; simp at this; simp [← this]
   | cons a b => rw [h] at this; simp at this; simp; omega
  rw [ceC, txR_snoc, ← ih, he]
  show ((_ ++ _) ++ _) ++ [58] ++ _ = _
  simp only [clT, Bool.true_and, decide_eq_true_eq]
  simp
def coG (lim : Int) : Nat → List Sx → List (List Cl) → Option (List Sx × List (List Cl))
 | 0, _, _ => none
 | f + 1, l, Cs => match l[Cs.length]? with
  | none => some (l, Cs)
  | some x => if lim < (l.length : Int) then none else coG lim f (ceK st th es x l es.size).1 (Cs ++ [ceC st th es x l es.size])
theorem coF_coG (lim : Int) : ∀ (f : Nat) (l : List Sx) (Cs : List (List Cl)), coF st th es lim f l (Cs.map txC) = (coG st th es lim f l Cs).map fun z => (z.1, z.2.map txC)
 | 0, _, _ => rfl
 | f + 1, l, Cs => by
  rw [coF, coG, List.length_map]
  cases hx : l[Cs.length]? with
  | none => rfl
  | some x =>
   simp only
   split
   ·rfl
   ·have ih := coF_coG lim f (ceK st th es x l es.size).1 (Cs ++ [ceC st th es x l es.size])
    rw [← ih, List.map_append]
    congr 2
    simp only [List.map_cons, List.map_nil, txC, ceK_txt]
end

theorem nuS_at {l : List Sx} {x : Sx} (h : nuS l x < l.length) : l[nuS l x]? = some x := by
 unfold nuS at h ⊢
 rcases firstB_spec (eqS l x) l.length with ⟨h1, -⟩ | ⟨k, h1, h2, h3, -⟩
 ·rw [h1] at h; simp at h
 ·rw [h1]
  simp only [Option.getD_some]
  unfold eqS at h3
  split at h3
  ·rename_i y hy; rw [hy]; simpa using h3
  ·cases h3
theorem nuS_no {l : List Sx} {x : Sx} (h : ¬ nuS l x < l.length) : ∀ i : Nat, l[i]? ≠ some x := by
 intro i hi
 have hil := (List.getElem?_eq_some_iff.1 hi).1
 unfold nuS at h
 rcases firstB_spec (eqS l x) l.length with ⟨-, h2⟩ | ⟨k, h1, h2, -, -⟩
 ·have := h2 i hil
  simp [eqS, hi] at this
 ·rw [h1] at h; simp at h; omega
theorem adS_at (l : List Sx) (x : Sx) : (adS l x)[nuS l x]? = some x := by
 unfold adS
 split
 ·exact nuS_at ‹_›
 ·have h1 := nuS_le l x
  have h2 : nuS l x = l.length := by omega
  rw [h2]; simp
def NdS (l : List Sx) : Prop := ∀ (i j : Nat) (x : Sx), l[i]? = some x → l[j]? = some x → i = j
theorem adS_nd {l : List Sx} (h : NdS l) (x : Sx) : NdS (adS l x) := by
 unfold adS
 split
 ·exact h
 ·rename_i hn
  have hno := nuS_no hn
  intro i j y hi hj
  have key : ∀ i : Nat, (l ++ [x])[i]? = some y → (i < l.length ∧ l[i]? = some y) ∨ (i = l.length ∧ y = x) := by
   intro i hi
   by_cases hlt : i < l.length
   ·rw [List.getElem?_append_left hlt] at hi; exact Or.inl ⟨hlt, hi⟩
   ·have h1 := (List.getElem?_eq_some_iff.1 hi).1
    rw [List.length_append] at h1
    simp only [List.length_cons, List.length_nil] at h1
    have h2 : i = l.length := by omega
    subst h2
    simp at hi
    exact Or.inr ⟨rfl, hi.symm⟩
  rcases key i hi with ⟨a1, a2⟩ | ⟨a1, a2⟩
  ·rcases key j hj with ⟨b1, b2⟩ | ⟨b1, b2⟩
   ·exact h i j y a2 b2
   ·rw [b2] at a2; exact absurd a2 (hno i)
  ·rcases key j hj with ⟨b1, b2⟩ | ⟨b1, b2⟩
   ·rw [a2] at b2; exact absurd b2 (hno j)
   ·omega
section
variable {st : List StP} {th : List TrH} {es : ByteArray}
def LdS (st : List StP) (th : List TrH) (es : ByteArray) (l : List Sx) (x : Sx) (C : List Cl) : Prop := ∀ (k : Nat) (c : Cl), C[k]? = some c → l[c.dst]? = some (sxP (spS st th (byte es k) x)) ∧ c.acts = ⟨(spS st th (byte es k) x).out.toArray⟩
theorem pre_at {l m : List Sx} (h : l <+: m) {i : Nat} {x : Sx} (hi : l[i]? = some x) : m[i]? = some x := by
 rw [pre_get h (List.getElem?_eq_some_iff.1 hi).1]; exact hi
theorem LdS.mono {l m : List Sx} {x : Sx} {C : List Cl} (h : LdS st th es l x C) (hp : l <+: m) : LdS st th es m x C := fun k c hk => ⟨pre_at hp (h k c hk).1, (h k c hk).2⟩
theorem ceC_ok {l : List Sx} (hn : NdS l) (x : Sx) : ∀ k, NdS (ceK st th es x l k).1 ∧ LdS st th es (ceK st th es x l k).1 x (ceC st th es x l k)
 | 0 => ⟨hn, fun k c h => by simp [ceC] at h⟩
 | k + 1 => by
  obtain ⟨i1, i2⟩ := ceC_ok hn x k
  refine ⟨adS_nd i1 _, fun j c hj => ?_⟩
  rw [ceC] at hj
  by_cases hlt : j < (ceC st th es x l k).length
  ·rw [List.getElem?_append_left hlt] at hj
   exact (i2.mono (adS_pre _ _)) j c hj
  ·have h1 := (List.getElem?_eq_some_iff.1 hj).1
   rw [List.length_append] at h1
   simp only [List.length_cons, List.length_nil] at h1
   have h2 : j = k := by rw [ceC_len] at hlt h1; omega
   subst h2
   rw [List.getElem?_append_right (by rw [ceC_len]; omega), ceC_len] at hj
   simp at hj
   subst hj
   exact ⟨adS_at _ _, rfl⟩
structure CoI (st : List StP) (th : List TrH) (es : ByteArray) (l : List Sx) (Cs : List (List Cl)) : Prop where
 nd : NdS l
 le : Cs.length ≤ l.length
 ce : ∀ (i : Nat) (C : List Cl), Cs[i]? = some C → ∃ x : Sx, l[i]? = some x ∧ C.length = es.size ∧ LdS st th es l x C
theorem CoI.step {l : List Sx} {Cs : List (List Cl)} {x : Sx} (h : CoI st th es l Cs) (hx : l[Cs.length]? = some x) : CoI st th es (ceK st th es x l es.size).1 (Cs ++ [ceC st th es x l es.size]) := by
 obtain ⟨k1, k2⟩ := ceC_ok (st := st) (th := th) (es := es) h.nd x es.size
 have hp := ceK_pre st th es x l es.size
 have hlt := (List.getElem?_eq_some_iff.1 hx).1
 refine ⟨k1, ?_, fun i C hi => ?_⟩
 ·have := hp.length_le
  rw [List.length_append]; simp only [List.length_cons, List.length_nil]; omega
 ·by_cases hil : i < Cs.length
  ·rw [List.getElem?_append_left hil] at hi
   obtain ⟨y, y1, y2, y3⟩ := h.ce i C hi
   exact ⟨y, pre_at hp y1, y2, y3.mono hp⟩
  ·have h1 := (List.getElem?_eq_some_iff.1 hi).1
   rw [List.length_append] at h1
   simp only [List.length_cons, List.length_nil] at h1
   have h2 : i = Cs.length := by omega
   subst h2
   simp at hi
   subst hi
   exact ⟨x, pre_at hp hx, ceC_len _ _ _ _ _ _, k2⟩
theorem coG_ok {lim : Int} {x0 : Sx} : ∀ (f : Nat) (l : List Sx) (Cs : List (List Cl)) (z : List Sx × List (List Cl)), CoI st th es l Cs → l[0]? = some x0 → (Cs.length < l.length ∨ (l.length : Int) ≤ lim) → coG st th es lim f l Cs = some z → CoI st th es z.1 z.2 ∧ z.2.length = z.1.length ∧ z.1[0]? = some x0 ∧ (z.1.length : Int) ≤ lim
  | 0, _, _, _, _, _, _, h => by cases h
  | f + 1, l, Cs, z, hI, h0, hl, h => by
    rw [coG] at h
    cases hx : l[Cs.length]? with
    | none =>
      rw [hx] at h
      simp only [Option.some.injEq] at h
      subst h
      have h1 : l.length ≤ Cs.length := List.getElem?_eq_none_iff.1 hx
      have h2 := hI.le
      exact ⟨hI, by simp only; omega, h0, by rcases hl with h3 | h3
                                             · omega
                                             · exact h3⟩
    | some x =>
      rw [hx] at h
      simp only at h
      split at h
      · cases h
      · have hp := ceK_pre st th es x l es.size
        have hlt := (List.getElem?_eq_some_iff.1 hx).1
        rename_i hnl
        refine coG_ok f _ _ z (hI.step hx) (pre_at hp h0) ?_ h
        have hple := hp.length_le
        by_cases h4 : (Cs ++ [ceC st th es x l es.size]).length < (ceK st th es x l es.size).1.length
        · exact Or.inl h4
        · right
          rw [List.length_append] at h4
          simp only [List.length_cons, List.length_nil] at h4
          omega
end

theorem rtT_snoc : ∀ (l : List Rtx) (r : Rtx), rtT (l ++ [r]) = rtT l ++ (r.txt ++ [59])
 | [], r => by simp [rtT]
 | a :: l, r => by simp only [List.cons_append, rtT, rtT_snoc l r, List.append_assoc]
def rtOf (Cs : List (List Cl)) (i : Nat) : Rtx := match Cs[i]? with
 | some C => if fiR (Cs.map txC) (txC C) < i then .same (fiR (Cs.map txC) (txC C)) else .own C
 | none => .own []
theorem bls_txC (C : List Cl) : bls (txC C) = txR true C := by simp [bls, txC]
theorem rowT_txt {Cs : List (List Cl)} {i : Nat} (h : i < Cs.length) : rowT (Cs.map txC) i = (rtOf Cs i).txt := by
 obtain ⟨C, hC⟩ : ∃ C, Cs[i]? = some C := ⟨_, List.getElem?_eq_getElem h⟩
 unfold rowT rtOf
 rw [List.getElem?_map, hC]
 simp only [Option.map_some]
 split
 ·rfl
 ·exact bls_txC C
theorem taK_tb (es beg : ByteArray) (Cs : List (List Cl)) : ∀ k, k ≤ Cs.length → taK es beg (Cs.map txC) k = tbT (bls es) (bls beg) ((List.range k).map (rtOf Cs))
 | 0, _ => by simp [taK, tbT, rtT]
 | k + 1, h => by
  have ih := taK_tb es beg Cs k (by omega)
  rw [taK, ih, rowT_txt (by omega), List.range_succ, List.map_append]
  simp only [List.map_cons, List.map_nil, tbT, rtT_snoc, List.append_assoc]
theorem rtR_get : ∀ (l : List Rtx) (p i : Nat) (r : Rtx), l[i]? = some r → ∃ q, (rtR p l)[i]? = some (r.row q)
 | [], p, i, r, h => by simp at h
 | a :: l, p, 0, r, h => by
  simp at h; subst h
  exact ⟨p, rfl⟩
 | a :: l, p, i + 1, r, h => by
  obtain ⟨q, hq⟩ := rtR_get l (p + a.txt.length + 1) i r (by simpa using h)
  exact ⟨q, by simpa [rtR] using hq⟩

theorem txC_inj {C D : List Cl} (h : (txC C).toList = (txC D).toList) : txC C = txC D := by
 rw [ByteArray.toList_eq, ByteArray.toList_eq] at h
 exact ByteArray.ext (Array.toList_inj.1 h)
theorem fiR_at {rows : List ByteArray} {x : ByteArray} {i : Nat} (h : rows[i]? = some x) : fiR rows x ≤ i ∧ ∃ y, rows[fiR rows x]? = some y ∧ y.toList = x.toList := by
 have hil := (List.getElem?_eq_some_iff.1 h).1
 unfold fiR
 rcases firstB_spec (eqR rows x) rows.length with ⟨-, h2⟩ | ⟨k, h1, h2, h3, h4⟩
 ·have := h2 i hil
  simp [eqR, h] at this
 ·rw [h1]
  simp only [Option.getD_some]
  refine ⟨?_, ?_⟩
  ·by_cases hk : k ≤ i
   ·exact hk
   ·have := h4 i (by omega)
    simp [eqR, h] at this
  ·unfold eqR at h3
   split at h3
   ·rename_i y hy; exact ⟨y, hy, by simpa using h3⟩
   ·cases h3
theorem fiR_congr {rows : List ByteArray} {x y : ByteArray} (h : x.toList = y.toList) : fiR rows x = fiR rows y := by
 have : eqR rows x = eqR rows y := by funext k; unfold eqR; split <;> simp [h]
 unfold fiR; rw [this]
theorem rtOf_fi {Cs : List (List Cl)} {i : Nat} {C : List Cl} (hC : Cs[i]? = some C) : ∃ D, Cs[fiR (Cs.map txC) (txC C)]? = some D ∧ rtOf Cs (fiR (Cs.map txC) (txC C)) = .own D ∧ txC D = txC C := by
 obtain ⟨h1, y, h2, h3⟩ := fiR_at (rows := Cs.map txC) (x := txC C) (i := i) (by rw [List.getElem?_map, hC]; rfl)
 rw [List.getElem?_map] at h2
 cases hD : Cs[fiR (Cs.map txC) (txC C)]? with
 | none => rw [hD] at h2; cases h2
 | some D =>
  rw [hD] at h2
  simp only [Option.map_some, Option.some.injEq] at h2
  subst h2
  refine ⟨D, rfl, ?_, txC_inj h3⟩
  unfold rtOf
  rw [hD]
  simp only
  rw [if_neg (by rw [fiR_congr h3]; omega)]

theorem tkOk_D (s : ByteArray) (i : Nat) : tkOk s 48 57 i = isD (byte s i) := by
 unfold tkOk
 by_cases h : i < s.size
 ·simp [h, isD]
 ·rw [byte_out s i h]; simp [h, isD]
theorem tkOk_1 (s : ByteArray) (c : UInt8) (i : Nat) (h0 : c ≠ 0) : tkOk s c c i = decide (byte s i = c) := by
 unfold tkOk
 by_cases h : i < s.size
 ·simp only [h, decide_true, Bool.true_and]
  rw [Bool.eq_iff_iff]
  simp only [Bool.and_eq_true, decide_eq_true_eq, UInt8.le_iff_toNat_le, ← UInt8.toNat_inj]
  omega
 ·rw [byte_out s i h]; simp [h, Ne.symm h0]

theorem byte_cut (s : ByteArray) (a b k : Nat) (hb : b ≤ s.size) (h : a + k < b) : byte (cut s a b) k = byte s (a + k) := by
 have h1 : k < (cut s a b).size := by rw [cut_size s a b (by omega) hb]; omega
 rw [byte_in _ k h1, byte_in s (a + k) (by omega)]
 have h2 : a + k < s.data.size := (by have : s.data.size = s.size := rfl; omega)
 show (cut s a b).data[k] = s.data[a + k]
 simp [cut]

set_option maxRecDepth 100000 in
set_option maxHeartbeats 400000 in
theorem num_bad (w : World) (b : Nat) (s : ByteArray) (i : Nat) (bad : Int) (v3 v4 v5 v6 : Value) (hp : PenB w b s i bad v3 v4 v5 v6) (hn : i ≤ 1000000) (hb : 0 ≤ bad) :
    Calls Tryz.prog 77 #[.pointer (some ⟨b, 0, none⟩)] w fun e w' => e = .returned (.int .i64 0) ∧ PenB w' b s i bad v3 v4 v5 v6 ∧ Fr (· = b) w w' := by
  go_enter Tryz.func77, Tryz.ntmps77
  go_wp2_with fail
  refine (take_at _ b s 48 57 48 57 rfl rfl i bad v3 v4 v5 v6 hp hn).mono ?_
  rintro e w1 ⟨rfl, hp1, hf1⟩
  rw [show tkC s 48 57 i bad = 0 by simp [tkC, hb]]
  rw [show tkI s 48 57 i bad = i by simp [tkI, hb], show tkB s 48 57 i bad = bad by simp [tkB, hb]] at hp1
  obtain ⟨-, -, c2, -⟩ := hp1.cells
  go_wp2_with fail
  first
    | (go_big_quiet (fail)
       go_wp2_with fail
       go_ret
       exact ⟨rfl, Blk.drewN hp1 _, hf1.drewNr _⟩)
    | (go_ret
       exact ⟨rfl, hp1, hf1⟩)

set_option maxRecDepth 100000 in
set_option maxHeartbeats 1000000 in
theorem num_good (w : World) (b : Nat) (s : ByteArray) (i : Nat) (v3 v4 v5 v6 : Value) (hp : PenB w b s i (-1) v3 v4 v5 v6) (hs : s.size ≤ 1000000) (hn : i ≤ s.size) :
    Calls Tryz.prog 77 #[.pointer (some ⟨b, 0, none⟩)] w fun e w' =>
      (isD (byte s i) = true → e = .returned (.int .i64 (nval s i)) ∧ PenB w' b s (nend s i) (-1) v3 v4 v5 v6) ∧
      (isD (byte s i) = false → e = .returned (.int .i64 0) ∧ PenB w' b s i i v3 v4 v5 v6) ∧ Fr (· = b) w w' := by
  go_enter Tryz.func77, Tryz.ntmps77
  go_wp2_with fail
  refine (take_at _ b s 48 57 48 57 rfl rfl i (-1) v3 v4 v5 v6 hp (by omega)).mono ?_
  rintro e w1 ⟨rfl, hp1, hf1⟩
  by_cases hd : isD (byte s i) = true
  · have hk : tkOk s 48 57 i = true := by rw [tkOk_D]; exact hd
    rw [show tkC s 48 57 i (-1) = byte s i by simp [tkC, hk]]
    rw [show tkI s 48 57 i (-1) = i + 1 by simp [tkI, hk], show tkB s 48 57 i (-1) = -1 by simp [tkB, hk]] at hp1
    have HD : Hid (isD (byte s i) = true) := hd
    obtain ⟨-, -, c2, -⟩ := hp1.cells
    by_cases h48 : byte s i = 48
    · have H48 : Hid (byte s i = 48) := h48
      rw [h48]
      clear hd hk h48
      go_wp2_with fail
      first
        | (go_big_quiet (fail)
           go_wp2_with fail
           go_ret
           exact ⟨fun _ => ⟨by rw [nval, if_pos H48.out]; rfl, by rw [nend, if_pos H48.out]; exact Blk.drewN hp1 _⟩, fun h => (by rw [HD.out] at h; cases h), hf1.drewNr _⟩)
        | (go_ret
           exact ⟨fun _ => ⟨by rw [nval, if_pos H48.out]; rfl, by rw [nend, if_pos H48.out]; exact hp1⟩, fun h => (by rw [HD.out] at h; cases h), hf1⟩)
    · have hne : (((byte s i).toNat : Int) == 48) = false := by
        rw [beq_eq_false_iff_ne]; intro h; exact h48 (UInt8.toNat_inj.1 (by show _ = 48; omega))
      obtain ⟨hks, hgo⟩ := dend_go s i hd
      have hge := dend_ge s (i + 1)
      have hle := dend_le s (i + 1) hks
      obtain ⟨d9, dv⟩ := dgt_le hd
      have HV : Hid (nval s i = min (nvF s (dend s (i + 1) - (i + 1)) (i + 1) (dgt (byte s i))) 1000000) := by show _ = _; rw [nval, if_neg h48, hgo]
      have HN : Hid (nend s i = dend s (i + 1)) := by show _ = _; rw [nend, if_neg h48, hgo]
      have hdp := dgt_pos hd h48
      clear hgo h48 hk hd hne
      rw [dv]
      generalize hdd : dgt (byte s i) = d at *
      have hne : ((48 : Int) + (d : Int) == 48) = false := by rw [beq_eq_false_iff_ne]; omega
      go_wp2_with fail
      refine (digits_any _ b s (i + 1) (-1) v3 v4 v5 v6 hp1 hs hks).mono ?_
      rintro e w2 ⟨rfl, hp2, hf2⟩
      rw [show dgI s (i + 1) (-1) = dend s (i + 1) by simp [dgI]] at hp2
      rw [show dgS s (i + 1) (-1) = cut s (i + 1) (dend s (i + 1)) by simp [dgS, dgI]]
      have hfr2 := hf1.thenr hf2 (fun _ _ h => h)
      generalize hE : dend s (i + 1) = E at *
      have hts : (cut s (i + 1) E).size = E - (i + 1) := cut_size s (i + 1) E hge hle
      have HB : Hid (∀ k, k < E - (i + 1) → byte (cut s (i + 1) E) k = byte s (i + 1 + k) ∧ isD (byte s (i + 1 + k)) = true) := by
        intro k hk
        exact ⟨byte_cut s (i + 1) E k hle (by omega), dend_in s (i + 1) (i + 1 + k) (by omega) (by omega)⟩
      have HTS : Hid _ := hts
      generalize cut s (i + 1) E = t at *
      clear hp1 hf1 hf2 hts c2
      have htl : t.size ≤ 1000000 := by have := HTS.out; omega
      go_wp2_with fail
      go_loopg [4, 6] (t.size + 1) (fun g vn vi wr => ∃ (k n : Nat), k ≤ t.size ∧ vn = .int .i64 n ∧ vi = .int .i64 k ∧ n < 10000000 ∧ wr = w2 ∧ Hid (nvF s (E - (i + 1)) (i + 1) d = nvF s (t.size - k) (i + 1 + k) n) ∧ t.size + 1 - k ≤ g)
      case atStart => exact ⟨0, d, Nat.zero_le _, by go_num, rfl, by omega, rfl, (by rw [HTS.out]; rfl), Nat.le_refl _⟩
      case round =>
        obtain ⟨k, n, hk, rfl, rfl, hnb, rfl, HP, hg⟩ := hrel
        by_cases hlt : (k : Int) < t.size
        · have hlt' : k < t.size := by omega
          obtain ⟨hbk, hdk⟩ := HB.out k (by have := HTS.out; omega)
          obtain ⟨e9, ev⟩ := dgt_le hdk
          rw [byte_in t k hlt'] at hbk
          have evI : ((t[k]).toNat) = 48 + dgt (byte s (i + 1 + k)) := by rw [hbk]; exact ev
          have HP2 : Hid (nvF s (E - (i + 1)) (i + 1) d = nvF s (t.size - (k + 1)) (i + 1 + (k + 1)) (if n < 1000000 then n * 10 + dgt (byte s (i + 1 + k)) else n)) := by
            show _ = _
            rw [HP.out, show t.size - k = (t.size - (k + 1)) + 1 by omega]
            rfl
          clear hbk hdk ev HP
          generalize dgt (byte s (i + 1 + k)) = c at *
          have evII : ((t[k]).toNat : Int) = 48 + (c : Int) := by omega
          by_cases hlg : (n : Int) < 1000000
          · have HI : Hid ((if n < 1000000 then n * 10 + c else n) = n * 10 + c) := by show _ = _; rw [if_pos (by omega)]
            go_wp2_with fail
            go_roundg (t.size + 1 - (k + 1))
            case measure => omega
            case rel => exact ⟨k + 1, n * 10 + c, by omega, by go_num, by go_num, by omega, rfl, (by rw [← HI.out]; exact HP2), Nat.le_refl _⟩
          · have hlg' : decide (n < 1000000) = false := by simp; omega
            have HI : Hid ((if n < 1000000 then n * 10 + c else n) = n) := by show _ = _; rw [if_neg (by omega)]
            go_wp2_with fail
            go_roundg (t.size + 1 - (k + 1))
            case measure => omega
            case rel => exact ⟨k + 1, n, by omega, rfl, by go_num, hnb, rfl, (by rw [← HI.out]; exact HP2), Nat.le_refl _⟩
        · have HP2 : Hid (nval s i = min n 1000000) := by
            show _ = _
            rw [HV.out, HP.out, show t.size - k = 0 by omega]
            rfl
          by_cases hlg : (1000000 : Int) < n
          · go_wp2_with fail
            go_ret
            exact ⟨fun _ => ⟨by rw [HP2.out, show min n 1000000 = 1000000 by omega]; rfl, by rw [HN.out]; exact hp2⟩, fun h => (by rw [HD.out] at h; cases h), hfr2⟩
          · have hlg' : decide (1000000 < n) = false := by simp; omega
            go_wp2_with fail
            go_ret
            exact ⟨fun _ => ⟨by rw [HP2.out, show min n 1000000 = n by omega]; rfl, by rw [HN.out]; exact hp2⟩, fun h => (by rw [HD.out] at h; cases h), hfr2⟩
  · have hd' : isD (byte s i) = false := by simpa using hd
    have hk : tkOk s 48 57 i = false := by rw [tkOk_D]; exact hd'
    rw [show tkC s 48 57 i (-1) = 0 by simp [tkC, hk]]
    rw [show tkI s 48 57 i (-1) = i by simp [tkI, hk], show tkB s 48 57 i (-1) = i by simp [tkB, hk]] at hp1
    have HD : Hid (isD (byte s i) = false) := hd'
    obtain ⟨-, -, c2, -⟩ := hp1.cells
    clear hd hd' hk
    go_wp2_with fail
    first
      | (go_big_quiet (fail)
         go_wp2_with fail
         go_ret
         exact ⟨fun h => (by rw [HD.out] at h; cases h), fun _ => ⟨rfl, Blk.drewN hp1 _⟩, hf1.drewNr _⟩)
      | (go_ret
         exact ⟨fun h => (by rw [HD.out] at h; cases h), fun _ => ⟨rfl, hp1⟩, hf1⟩)


theorem clF_go (s : ByteArray) (wd k : Nat) (a : List Cl) (h : a.length < wd) (hc : a = [] ∨ byte s k = 44) (hk : (cellP s (clJ a k)).1 = true) :
  clF s (wd - a.length) k a = clF s (wd - (a ++ [(cellP s (clJ a k)).2.2]).length) (cellP s (clJ a k)).2.1 (a ++ [(cellP s (clJ a k)).2.2]) := by
 rw [show wd - a.length = (wd - (a ++ [(cellP s (clJ a k)).2.2]).length) + 1 by simp; omega]
 conv => lhs; simp only [clF]
 rw [if_neg (fun h => hc.elim h.1 h.2), if_neg (by simp [hk])]
theorem clF_bad (s : ByteArray) (wd k : Nat) (a : List Cl) (h : a.length < wd) (hc : a = [] ∨ byte s k = 44) (hk : (cellP s (clJ a k)).1 = false) :
  clF s (wd - a.length) k a = (false, (cellP s (clJ a k)).2.1, a) := by
 rw [show wd - a.length = (wd - (a.length + 1)) + 1 by omega]
 conv => lhs; simp only [clF]
 rw [if_neg (fun h => hc.elim h.1 h.2), if_pos hk]
theorem clF_no (s : ByteArray) (wd k : Nat) (a : List Cl) (h : a.length < wd) (h0 : a ≠ []) (hc : byte s k ≠ 44) :
  clF s (wd - a.length) k a = (false, k, a) := by
 rw [show wd - a.length = (wd - (a.length + 1)) + 1 by omega]
 conv => lhs; simp only [clF]
 rw [if_pos ⟨h0, hc⟩]


def smQ (x : Int) : Int := if x < 0 then -1 else min x 99
structure RwH where
 q : Rw
 cv : Value
theorem fr4 {S : Nat → Prop} {a w : World} (h : Fr S a w) (q : Nat) (hq : S q ∨ a.heap.size ≤ q) (v0 v1 v2 v3 : Value) : Fr S a ((((w.setCell ⟨q, 0, none⟩ v0).setCell ⟨q, 1, none⟩ v1).setCell ⟨q, 2, none⟩ v2).setCell ⟨q, 3, none⟩ v3) :=
 (((h.setCellr ⟨q, 0, none⟩ _ hq).setCellr ⟨q, 1, none⟩ _ hq).setCellr ⟨q, 2, none⟩ _ hq).setCellr ⟨q, 3, none⟩ _ hq
theorem blk4 {w : World} {b : Nat} {c : Array Value} {e : TypeId} (h : Blk w b c e) (q : Nat) (hq : b ≠ q) (v0 v1 v2 v3 : Value) : Blk ((((w.setCell ⟨q, 0, none⟩ v0).setCell ⟨q, 1, none⟩ v1).setCell ⟨q, 2, none⟩ v2).setCell ⟨q, 3, none⟩ v3) b c e :=
 Blk.other (Blk.other (Blk.other (Blk.other h _ _ hq) _ _ hq) _ _ hq) _ _ hq


def nuV (s : ByteArray) (i : Nat) (bad : Int) : Nat := if 0 ≤ bad then 0 else if isD (byte s i) = true then nval s i else 0
def nuI (s : ByteArray) (i : Nat) (bad : Int) : Nat := if 0 ≤ bad then i else if isD (byte s i) = true then nend s i else i
def nuB (s : ByteArray) (i : Nat) (bad : Int) : Int := if 0 ≤ bad then bad else if isD (byte s i) = true then bad else i

theorem num_any (w : World) (b : Nat) (s : ByteArray) (i : Nat) (bad : Int) (v3 v4 v5 v6 : Value) (hp : PenB w b s i bad v3 v4 v5 v6) (hs : s.size ≤ 1000000) (hn : i ≤ s.size) (hb : bad = -1 ∨ 0 ≤ bad) :
  Calls Tryz.prog 77 #[.pointer (some ⟨b, 0, none⟩)] w fun e w' => e = .returned (.int .i64 (nuV s i bad)) ∧ PenB w' b s (nuI s i bad) (nuB s i bad) v3 v4 v5 v6 ∧ Fr (· = b) w w' := by
 by_cases h : 0 ≤ bad
 ·rw [show nuV s i bad = 0 by simp [nuV, h], show nuI s i bad = i by simp [nuI, h], show nuB s i bad = bad by simp [nuB, h]]
  exact num_bad w b s i bad v3 v4 v5 v6 hp (by omega) h
 ·have h1 : bad = -1 := by omega
  subst h1
  refine (num_good w b s i v3 v4 v5 v6 hp hs hn).mono ?_
  rintro e w1 ⟨hy, hno, hf⟩
  by_cases hd : isD (byte s i) = true
  ·obtain ⟨rfl, hp1⟩ := hy hd
   rw [show nuV s i (-1) = nval s i by simp [nuV, hd], show nuI s i (-1) = nend s i by simp [nuI, hd], show nuB s i (-1) = -1 by simp [nuB, hd]]
   exact ⟨rfl, hp1, hf⟩
  ·obtain ⟨rfl, hp1⟩ := hno (by simpa using hd)
   rw [show nuV s i (-1) = 0 by simp [nuV, hd], show nuI s i (-1) = i by simp [nuI, hd], show nuB s i (-1) = i by simp [nuB, hd]]
   exact ⟨rfl, hp1, hf⟩

def dcI (s : ByteArray) (i : Nat) (bad : Int) : Nat := dgI s (tkI s 58 58 (nuI s i bad) (nuB s i bad)) (tkB s 58 58 (nuI s i bad) (nuB s i bad))
def dcB (s : ByteArray) (i : Nat) (bad : Int) : Int := tkB s 58 58 (nuI s i bad) (nuB s i bad)
def dcC (s : ByteArray) (i : Nat) (bad : Int) : Cl := ⟨nuV s i bad, dgS s (tkI s 58 58 (nuI s i bad) (nuB s i bad)) (tkB s 58 58 (nuI s i bad) (nuB s i bad))⟩

theorem nuI_bd (s : ByteArray) (i : Nat) (bad : Int) (h : i ≤ s.size) : i ≤ nuI s i bad ∧ nuI s i bad ≤ s.size := by
 unfold nuI; split
 ·omega
 ·split
  ·have := nend_bd s i ‹_›; omega
  ·omega
theorem dcI_bd (s : ByteArray) (i : Nat) (bad : Int) (h : i ≤ s.size) : i ≤ dcI s i bad ∧ dcI s i bad ≤ s.size := by
 have h1 := nuI_bd s i bad h
 have h2 := tkI_bd s 58 58 (nuI s i bad) (nuB s i bad) h1.2
 have h3 := dgI_bd s (tkI s 58 58 (nuI s i bad) (nuB s i bad)) (tkB s 58 58 (nuI s i bad) (nuB s i bad)) h2.2
 unfold dcI; omega
theorem dc_bad (s : ByteArray) (i : Nat) (bad : Int) (h : 0 ≤ bad) : dcB s i bad = bad := by simp [dcB, nuB, tkB, h]
theorem dc_ok (s : ByteArray) (i : Nat) (h : (cellP s i).1 = true) : dcI s i (-1) = (cellP s i).2.1 ∧ dcB s i (-1) = -1 ∧ dcC s i (-1) = (cellP s i).2.2 := by
 revert h
 unfold cellP
 split
 ·intro h; cases h
 ·rename_i h1
  have hd : isD (byte s i) = true := by simpa using h1
  split
  ·intro h; cases h
  ·rename_i h2
   have h58 : byte s (nend s i) = 58 := by simpa using h2
   intro _
   have e1 : nuI s i (-1) = nend s i := by simp [nuI, hd]
   have e2 : nuB s i (-1) = -1 := by simp [nuB, hd]
   have e3 : tkOk s 58 58 (nend s i) = true := by rw [tkOk_1 s 58 _ (by decide)]; simp [h58]
   have e4 : tkI s 58 58 (nend s i) (-1) = nend s i + 1 := by simp [tkI, e3]
   have e5 : tkB s 58 58 (nend s i) (-1) = -1 := by simp [tkB, e3]
   have e6 : nuV s i (-1) = nval s i := by simp [nuV, hd]
   unfold dcI dcB dcC
   rw [e1, e2, e4, e5, e6]
   simp [dgI, dgS]
theorem dc_no (s : ByteArray) (i : Nat) (h : (cellP s i).1 = false) : dcB s i (-1) = (cellP s i).2.1 := by
 revert h
 unfold cellP
 split
 ·rename_i h1
  intro _
  simp [dcB, nuI, nuB, h1, tkB]
 ·rename_i h1
  have hd : isD (byte s i) = true := by simpa using h1
  split
  ·rename_i h2
   intro _
   have e3 : tkOk s 58 58 (nend s i) = false := by rw [tkOk_1 s 58 _ (by decide)]; simpa using h2
   have e1 : nuI s i (-1) = nend s i := by simp [nuI, hd]
   have e2 : nuB s i (-1) = -1 := by simp [nuB, hd]
   unfold dcB
   rw [e1, e2]
   simp [tkB, e3]
  ·intro h; cases h

def cmI (s : ByteArray) (k i : Nat) : Nat := if k = 0 then i else tkI s 44 44 i (-1)
def cmB (s : ByteArray) (k i : Nat) : Int := if k = 0 then -1 else tkB s 44 44 i (-1)

def ClSt (s : ByteArray) (wd i : Nat) (k j : Nat) (bad : Int) (a : List Cl) : Prop :=
 (bad = -1 ∧ a.length = k ∧ clF s wd i [] = clF s (wd - k) j a) ∨ (0 ≤ bad ∧ (clF s wd i []).1 = false ∧ ((clF s wd i []).2.1 : Int) = bad)

theorem clSt_step (s : ByteArray) (wd i k j : Nat) (a : List Cl) (hj : j ≤ s.size) (hk : k < wd) (h : ClSt s wd i k j (-1) a) :
    ClSt s wd i (k + 1) (dcI s (cmI s k j) (cmB s k j)) (dcB s (cmI s k j) (cmB s k j)) (a ++ [dcC s (cmI s k j) (cmB s k j)]) := by
  rcases h with ⟨-, hl, he⟩ | ⟨h0, -⟩
  · subst hl
    by_cases hc : a = [] ∨ byte s j = 44
    · have e1 : cmI s a.length j = clJ a j ∧ cmB s a.length j = -1 := by
        unfold cmI cmB clJ
        by_cases ha : a = []
        · subst ha; simp
        · have hl : a.length ≠ 0 := fun h => ha (List.eq_nil_of_length_eq_zero h)
          have h44 : byte s j = 44 := hc.resolve_left ha
          have hk1 : tkOk s 44 44 j = true := by rw [tkOk_1 s 44 _ (by decide)]; simp [h44]
          rw [if_neg hl, if_neg hl, if_neg ha]
          simp [tkI, tkB, hk1]
      rw [e1.1, e1.2]
      cases hok : (cellP s (clJ a j)).1
      · right
        have h1 := dc_no s _ hok
        have h2 := clF_bad s wd j a hk hc hok
        rw [h1, he, h2]
        exact ⟨by omega, rfl, rfl⟩
      · left
        obtain ⟨h1, h2, h3⟩ := dc_ok s _ hok
        rw [h1, h2, h3, he, clF_go s wd j a hk hc hok]
        exact ⟨rfl, by simp, by simp⟩
    · right
      have ha : a ≠ [] := fun h => hc (Or.inl h)
      have h44 : byte s j ≠ 44 := fun h => hc (Or.inr h)
      have hl : a.length ≠ 0 := fun h => ha (List.eq_nil_of_length_eq_zero h)
      have hk1 : tkOk s 44 44 j = false := by rw [tkOk_1 s 44 _ (by decide)]; simp [h44]
      have e2 : cmB s a.length j = j := by unfold cmB; rw [if_neg hl]; simp [tkB, hk1]
      rw [e2, dc_bad s _ _ (by omega), he, clF_no s wd j a hk ha h44]
      exact ⟨by omega, rfl, rfl⟩
  · omega

def clD (x : Cl) : List Value := [.int .i64 x.dst, .string x.acts]
theorem clD_len (x : Cl) : (clD x).length = 2 := rfl
theorem elemDCell : ElemOk Tryz.prog 68 71 2 24 where
 ht := Tryz.underlying68
 info := by
  obtain ⟨i, h0, h1, h2, h3⟩ := info_parts (show (Tryz.prog.info? 71).map (fun i => (i.zero, i.size, i.bytes)) = some (some (.agg #[.int .i64 0, .string ⟨#[]⟩]), 2, 24) by kernel_rfl)
  exact ⟨i, _, h0, h1, h2, h3, rfl⟩
 pos := by decide
def dText (q : Rw) : ByteArray := if q.same < 0 then q.text else ⟨#[]⟩
def RwH.dcells (x : RwH) : List Value := [.int .i64 x.q.at_, .int .i64 x.q.same, x.cv, .string (dText x.q)]
theorem RwH.dlen (x : RwH) : x.dcells.length = 4 := rfl

def DrPost (s : ByteArray) (b i wd : Nat) (v3 v4 v5 v6 : Value) (w : World) (e : Ending) (w' : World) : Prop :=
 ((rowP s wd i).1 = true → ∃ cv, e = .returned (.agg (RwH.dcells ⟨(rowP s wd i).2.2, cv⟩).toArray) ∧ PenB w' b s (rowP s wd i).2.1 (-1) v3 v4 v5 v6 ∧ w'.ownsRow 0 71 2 cv (rowP s wd i).2.2.cells.length ((rowP s wd i).2.2.cells.flatMap clD) ∧ (∀ k, cv.ownBlock = some k → w.heap.size ≤ k)) ∧
 ((rowP s wd i).1 = false → ∃ at_ sm ca n cc tx, e = .returned (.agg #[.int .i64 at_, .int .i64 sm, .slice ca n cc, .string tx]) ∧ ∃ i', PenB w' b s i' (rowP s wd i).2.1 v3 v4 v5 v6) ∧ Fr (· = b) w w'

end Go.Proofs.YtmolmbeeoecnfaaGreatDoor
