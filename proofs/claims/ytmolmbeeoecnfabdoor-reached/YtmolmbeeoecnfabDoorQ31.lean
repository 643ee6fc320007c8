/- Own work: CoR3, CoR4, TD1. -/
import Derived.Test.YtmolmbeeoecnfabDoorQ27
import Derived.Test.YtmolmbeeoecnfabDoorQ30
import Derived.Test.YtmolmbeeoecnfabDoorQ26
/- Own work: plain: what the compiler's rows say. -/
namespace Go.Proofs.YtmolmbeeoecnfabDoor
open Go.RowKit Go.BigFrame
set_option linter.unusedVariables false
set_option linter.unusedSimpArgs false

def txC (C : List Cl) : ByteArray := ⟨(txR true C).toArray⟩
section
variable (st : List StP) (th : List TrH) (es : ByteArray)
/-- The cells of the status x at the first k events. -/
def ceC (x : Sx) (l : List Sx) : Nat → List Cl
  | 0 => []
  | k + 1 => ceC x l k ++ [⟨nuS (ceK st th es x l k).1 (sxP (spS st th (byte es k) x)), ⟨(spS st th (byte es k) x).out.toArray⟩⟩]
theorem ceC_len (x : Sx) (l : List Sx) : ∀ k, (ceC st th es x l k).length = k
  | 0 => rfl
  | k + 1 => by simp [ceC, ceC_len x l k]
theorem txR_snoc : ∀ (a : List Cl) (b : Bool) (c : Cl), txR b (a ++ [c]) = (txR b a ++ (if (b && a.isEmpty) = true then [] else [44])) ++ clT c
  | [], b, c => by cases b <;> simp [txR]
  | d :: a, b, c => by
    have ih := txR_snoc a false c
    simp only [List.cons_append, txR, ih]
    simp
theorem ceK_txt (x : Sx) (l : List Sx) : ∀ k, (ceK st th es x l k).2 = txR true (ceC st th es x l k)
  | 0 => rfl
  | k + 1 => by
    have ih := ceK_txt x l k
    have he : (ceC st th es x l k).isEmpty = decide (k = 0) := by
      have := ceC_len st th es x l k
      cases h : ceC st th es x l k with
      | nil => rw [h] at this; simp at this; simp [← this]
      | cons a b => rw [h] at this; simp at this; simp; omega
    rw [ceC, txR_snoc, ← ih, he]
    show ((_ ++ _) ++ _) ++ [58] ++ _ = _
    simp only [clT, Bool.true_and, decide_eq_true_eq]
    simp
/-- As coF, the cells themselves. -/
def coG (lim : Int) : Nat → List Sx → List (List Cl) → Option (List Sx × List (List Cl))
  | 0, _, _ => none
  | f + 1, l, Cs => match l[Cs.length]? with
    | none => some (l, Cs)
    | some x => if lim < (l.length : Int) then none else coG lim f (ceK st th es x l es.size).1 (Cs ++ [ceC st th es x l es.size])
theorem coF_coG (lim : Int) : ∀ (f : Nat) (l : List Sx) (Cs : List (List Cl)), coF st th es lim f l (Cs.map txC) = (coG st th es lim f l Cs).map fun z => (z.1, z.2.map txC)
  | 0, _, _ => rfl
  | f + 1, l, Cs => by
    rw [coF, coG, List.length_map]
    cases hx : l[Cs.length]? with
    | none => rfl
    | some x =>
      simp only
      split
      · rfl
      · have ih := coF_coG lim f (ceK st th es x l es.size).1 (Cs ++ [ceC st th es x l es.size])
        rw [← ih, List.map_append]
        congr 2
        simp only [List.map_cons, List.map_nil, txC, ceK_txt]
end
/-! Numbers. -/
theorem nuS_at {l : List Sx} {x : Sx} (h : nuS l x < l.length) : l[nuS l x]? = some x := by
  unfold nuS at h ⊢
  rcases firstB_spec (eqS l x) l.length with ⟨h1, -⟩ | ⟨k, h1, h2, h3, -⟩
  · rw [h1] at h; simp at h
  · rw [h1]
    simp only [Option.getD_some]
    unfold eqS at h3
    split at h3
    · rename_i y hy; rw [hy]; simpa using h3
    · cases h3
theorem nuS_no {l : List Sx} {x : Sx} (h : ¬ nuS l x < l.length) : ∀ i : Nat, l[i]? ≠ some x := by
  intro i hi
  have hil := (List.getElem?_eq_some_iff.1 hi).1
  unfold nuS at h
  rcases firstB_spec (eqS l x) l.length with ⟨-, h2⟩ | ⟨k, h1, h2, -, -⟩
  · have := h2 i hil
    simp [eqS, hi] at this
  · rw [h1] at h; simp at h; omega
theorem adS_at (l : List Sx) (x : Sx) : (adS l x)[nuS l x]? = some x := by
  unfold adS
  split
  · exact nuS_at ‹_›
  · have h1 := nuS_le l x
    have h2 : nuS l x = l.length := by omega
    rw [h2]; simp
def NdS (l : List Sx) : Prop := ∀ (i j : Nat) (x : Sx), l[i]? = some x → l[j]? = some x → i = j
theorem adS_nd {l : List Sx} (h : NdS l) (x : Sx) : NdS (adS l x) := by
  unfold adS
  split
  · exact h
  · rename_i hn
    have hno := nuS_no hn
    intro i j y hi hj
    have key : ∀ i : Nat, (l ++ [x])[i]? = some y → (i < l.length ∧ l[i]? = some y) ∨ (i = l.length ∧ y = x) := by
      intro i hi
      by_cases hlt : i < l.length
      · rw [List.getElem?_append_left hlt] at hi; exact Or.inl ⟨hlt, hi⟩
      · have h1 := (List.getElem?_eq_some_iff.1 hi).1
        rw [List.length_append] at h1
        simp only [List.length_cons, List.length_nil] at h1
        have h2 : i = l.length := by omega
        subst h2
        simp at hi
        exact Or.inr ⟨rfl, hi.symm⟩
    rcases key i hi with ⟨a1, a2⟩ | ⟨a1, a2⟩
    · rcases key j hj with ⟨b1, b2⟩ | ⟨b1, b2⟩
      · exact h i j y a2 b2
      · rw [b2] at a2; exact absurd a2 (hno i)
    · rcases key j hj with ⟨b1, b2⟩ | ⟨b1, b2⟩
      · rw [a2] at b2; exact absurd b2 (hno j)
      · omega
section
variable {st : List StP} {th : List TrH} {es : ByteArray}
/-- The cells lead to where the events lead. -/
def LdS (st : List StP) (th : List TrH) (es : ByteArray) (l : List Sx) (x : Sx) (C : List Cl) : Prop := ∀ (k : Nat) (c : Cl), C[k]? = some c → l[c.dst]? = some (sxP (spS st th (byte es k) x)) ∧ c.acts = ⟨(spS st th (byte es k) x).out.toArray⟩
theorem pre_at {l m : List Sx} (h : l <+: m) {i : Nat} {x : Sx} (hi : l[i]? = some x) : m[i]? = some x := by
  rw [pre_get h (List.getElem?_eq_some_iff.1 hi).1]; exact hi
theorem LdS.mono {l m : List Sx} {x : Sx} {C : List Cl} (h : LdS st th es l x C) (hp : l <+: m) : LdS st th es m x C := fun k c hk => ⟨pre_at hp (h k c hk).1, (h k c hk).2⟩
theorem ceC_ok {l : List Sx} (hn : NdS l) (x : Sx) : ∀ k, NdS (ceK st th es x l k).1 ∧ LdS st th es (ceK st th es x l k).1 x (ceC st th es x l k)
  | 0 => ⟨hn, fun k c h => by simp [ceC] at h⟩
  | k + 1 => by
    obtain ⟨i1, i2⟩ := ceC_ok hn x k
    refine ⟨adS_nd i1 _, fun j c hj => ?_⟩
    rw [ceC] at hj
    by_cases hlt : j < (ceC st th es x l k).length
    · rw [List.getElem?_append_left hlt] at hj
      exact (i2.mono (adS_pre _ _)) j c hj
    · have h1 := (List.getElem?_eq_some_iff.1 hj).1
      rw [List.length_append] at h1
      simp only [List.length_cons, List.length_nil] at h1
      have h2 : j = k := by rw [ceC_len] at hlt h1; omega
      subst h2
      rw [List.getElem?_append_right (by rw [ceC_len]; omega), ceC_len] at hj
      simp at hj
      subst hj
      exact ⟨adS_at _ _, rfl⟩
/-- What holds of the statuses and of the rows so far. -/
structure CoI (st : List StP) (th : List TrH) (es : ByteArray) (l : List Sx) (Cs : List (List Cl)) : Prop where
  nd : NdS l
  le : Cs.length ≤ l.length
  ce : ∀ (i : Nat) (C : List Cl), Cs[i]? = some C → ∃ x : Sx, l[i]? = some x ∧ C.length = es.size ∧ LdS st th es l x C
theorem CoI.step {l : List Sx} {Cs : List (List Cl)} {x : Sx} (h : CoI st th es l Cs) (hx : l[Cs.length]? = some x) : CoI st th es (ceK st th es x l es.size).1 (Cs ++ [ceC st th es x l es.size]) := by
  obtain ⟨k1, k2⟩ := ceC_ok (st := st) (th := th) (es := es) h.nd x es.size
  have hp := ceK_pre st th es x l es.size
  have hlt := (List.getElem?_eq_some_iff.1 hx).1
  refine ⟨k1, ?_, fun i C hi => ?_⟩
  · have := hp.length_le
    rw [List.length_append]; simp only [List.length_cons, List.length_nil]; omega
  · by_cases hil : i < Cs.length
    · rw [List.getElem?_append_left hil] at hi
      obtain ⟨y, y1, y2, y3⟩ := h.ce i C hi
      exact ⟨y, pre_at hp y1, y2, y3.mono hp⟩
    · have h1 := (List.getElem?_eq_some_iff.1 hi).1
      rw [List.length_append] at h1
      simp only [List.length_cons, List.length_nil] at h1
      have h2 : i = Cs.length := by omega
      subst h2
      simp at hi
      subst hi
      exact ⟨x, pre_at hp hx, ceC_len _ _ _ _ _ _, k2⟩
/-- What holds at the end. -/
theorem coG_ok {lim : Int} {x0 : Sx} : ∀ (f : Nat) (l : List Sx) (Cs : List (List Cl)) (z : List Sx × List (List Cl)), CoI st th es l Cs → l[0]? = some x0 → (Cs.length < l.length ∨ (l.length : Int) ≤ lim) → coG st th es lim f l Cs = some z → CoI st th es z.1 z.2 ∧ z.2.length = z.1.length ∧ z.1[0]? = some x0 ∧ (z.1.length : Int) ≤ lim
  | 0, _, _, _, _, _, _, h => by cases h
  | f + 1, l, Cs, z, hI, h0, hl, h => by
    rw [coG] at h
    cases hx : l[Cs.length]? with
    | none =>
      rw [hx] at h
      simp only [Option.some.injEq] at h
      subst h
      have h1 : l.length ≤ Cs.length := List.getElem?_eq_none_iff.1 hx
      have h2 := hI.le
      exact ⟨hI, by simp only; omega, h0, by rcases hl with h3 | h3
                                             · omega
                                             · exact h3⟩
    | some x =>
      rw [hx] at h
      simp only at h
      split at h
      · cases h
      · have hp := ceK_pre st th es x l es.size
        have hlt := (List.getElem?_eq_some_iff.1 hx).1
        rename_i hnl
        refine coG_ok f _ _ z (hI.step hx) (pre_at hp h0) ?_ h
        have hple := hp.length_le
        by_cases h4 : (Cs ++ [ceC st th es x l es.size]).length < (ceK st th es x l es.size).1.length
        · exact Or.inl h4
        · right
          rw [List.length_append] at h4
          simp only [List.length_cons, List.length_nil] at h4
          omega
end
end Go.Proofs.YtmolmbeeoecnfabDoor

/- Own work: plain: the compiled table's text is read back. -/
namespace Go.Proofs.YtmolmbeeoecnfabDoor
open Go.RowKit Go.BigFrame
set_option linter.unusedVariables false
set_option linter.unusedSimpArgs false

theorem rtT_snoc : ∀ (l : List Rtx) (r : Rtx), rtT (l ++ [r]) = rtT l ++ (r.txt ++ [59])
  | [], r => by simp [rtT]
  | a :: l, r => by simp only [List.cons_append, rtT, rtT_snoc l r, List.append_assoc]
/-- How row i is written. -/
def rtOf (Cs : List (List Cl)) (i : Nat) : Rtx := match Cs[i]? with
  | some C => if fiR (Cs.map txC) (txC C) < i then .same (fiR (Cs.map txC) (txC C)) else .own C
  | none => .own []
theorem bls_txC (C : List Cl) : bls (txC C) = txR true C := by simp [bls, txC]
theorem rowT_txt {Cs : List (List Cl)} {i : Nat} (h : i < Cs.length) : rowT (Cs.map txC) i = (rtOf Cs i).txt := by
  obtain ⟨C, hC⟩ : ∃ C, Cs[i]? = some C := ⟨_, List.getElem?_eq_getElem h⟩
  unfold rowT rtOf
  rw [List.getElem?_map, hC]
  simp only [Option.map_some]
  split
  · rfl
  · exact bls_txC C
theorem taK_tb (es beg : ByteArray) (Cs : List (List Cl)) : ∀ k, k ≤ Cs.length → taK es beg (Cs.map txC) k = tbT (bls es) (bls beg) ((List.range k).map (rtOf Cs))
  | 0, _ => by simp [taK, tbT, rtT]
  | k + 1, h => by
    have ih := taK_tb es beg Cs k (by omega)
    rw [taK, ih, rowT_txt (by omega), List.range_succ, List.map_append]
    simp only [List.map_cons, List.map_nil, tbT, rtT_snoc, List.append_assoc]
theorem rtR_get : ∀ (l : List Rtx) (p i : Nat) (r : Rtx), l[i]? = some r → ∃ q, (rtR p l)[i]? = some (r.row q)
  | [], p, i, r, h => by simp at h
  | a :: l, p, 0, r, h => by
    simp at h; subst h
    exact ⟨p, rfl⟩
  | a :: l, p, i + 1, r, h => by
    obtain ⟨q, hq⟩ := rtR_get l (p + a.txt.length + 1) i r (by simpa using h)
    exact ⟨q, by simpa [rtR] using hq⟩
/-! The first row that reads so. -/
theorem txC_inj {C D : List Cl} (h : (txC C).toList = (txC D).toList) : txC C = txC D := by
  rw [ByteArray.toList_eq, ByteArray.toList_eq] at h
  exact ByteArray.ext (Array.toList_inj.1 h)
theorem fiR_at {rows : List ByteArray} {x : ByteArray} {i : Nat} (h : rows[i]? = some x) : fiR rows x ≤ i ∧ ∃ y, rows[fiR rows x]? = some y ∧ y.toList = x.toList := by
  have hil := (List.getElem?_eq_some_iff.1 h).1
  unfold fiR
  rcases firstB_spec (eqR rows x) rows.length with ⟨-, h2⟩ | ⟨k, h1, h2, h3, h4⟩
  · have := h2 i hil
    simp [eqR, h] at this
  · rw [h1]
    simp only [Option.getD_some]
    refine ⟨?_, ?_⟩
    · by_cases hk : k ≤ i
      · exact hk
      · have := h4 i (by omega)
        simp [eqR, h] at this
    · unfold eqR at h3
      split at h3
      · rename_i y hy; exact ⟨y, hy, by simpa using h3⟩
      · cases h3
theorem fiR_congr {rows : List ByteArray} {x y : ByteArray} (h : x.toList = y.toList) : fiR rows x = fiR rows y := by
  have : eqR rows x = eqR rows y := by funext k; unfold eqR; split <;> simp [h]
  unfold fiR; rw [this]
/-- A row that is named is one of its own. -/
theorem rtOf_fi {Cs : List (List Cl)} {i : Nat} {C : List Cl} (hC : Cs[i]? = some C) : ∃ D, Cs[fiR (Cs.map txC) (txC C)]? = some D ∧ rtOf Cs (fiR (Cs.map txC) (txC C)) = .own D ∧ txC D = txC C := by
  obtain ⟨h1, y, h2, h3⟩ := fiR_at (rows := Cs.map txC) (x := txC C) (i := i) (by rw [List.getElem?_map, hC]; rfl)
  rw [List.getElem?_map] at h2
  cases hD : Cs[fiR (Cs.map txC) (txC C)]? with
  | none => rw [hD] at h2; cases h2
  | some D =>
    rw [hD] at h2
    simp only [Option.map_some, Option.some.injEq] at h2
    subst h2
    refine ⟨D, rfl, ?_, txC_inj h3⟩
    unfold rtOf
    rw [hD]
    simp only
    rw [if_neg (by rw [fiR_congr h3]; omega)]
end Go.Proofs.YtmolmbeeoecnfabDoor

/- Own work: walks of the document's table reader: num. -/
namespace Go.Proofs.YtmolmbeeoecnfabDoor
open Go.RowKit Go.BigFrame
set_option linter.unusedVariables false
set_option linter.unusedSimpArgs false

theorem tkOk_D (s : ByteArray) (i : Nat) : tkOk s 48 57 i = isD (byte s i) := by
  unfold tkOk
  by_cases h : i < s.size
  · simp [h, isD]
  · rw [byte_out s i h]; simp [h, isD]
theorem tkOk_1 (s : ByteArray) (c : UInt8) (i : Nat) (h0 : c ≠ 0) : tkOk s c c i = decide (byte s i = c) := by
  unfold tkOk
  by_cases h : i < s.size
  · simp only [h, decide_true, Bool.true_and]
    rw [Bool.eq_iff_iff]
    simp only [Bool.and_eq_true, decide_eq_true_eq, UInt8.le_iff_toNat_le, ← UInt8.toNat_inj]
    omega
  · rw [byte_out s i h]; simp [h, Ne.symm h0]

theorem byte_cut (s : ByteArray) (a b k : Nat) (hb : b ≤ s.size) (h : a + k < b) : byte (cut s a b) k = byte s (a + k) := by
  have h1 : k < (cut s a b).size := by rw [cut_size s a b (by omega) hb]; omega
  rw [byte_in _ k h1, byte_in s (a + k) (by omega)]
  have h2 : a + k < s.data.size := (by have : s.data.size = s.size := rfl; omega)
  show (cut s a b).data[k] = s.data[a + k]
  simp [cut]

set_option maxRecDepth 100000 in
set_option maxHeartbeats 400000 in
theorem num_bad (w : World) (b : Nat) (s : ByteArray) (i : Nat) (bad : Int) (v3 v4 v5 v6 : Value) (hp : PenB w b s i bad v3 v4 v5 v6) (hn : i ≤ 1000000) (hb : 0 ≤ bad) :
    Calls Tryd.prog 69 #[.pointer (some ⟨b, 0, none⟩)] w fun e w' => e = .returned (.int .i64 0) ∧ PenB w' b s i bad v3 v4 v5 v6 ∧ Fr (· = b) w w' := by
  go_enter Tryd.func69, Tryd.ntmps69
  go_wp2_with fail
  refine (take_at _ b s 48 57 48 57 rfl rfl i bad v3 v4 v5 v6 hp hn).mono ?_
  rintro e w1 ⟨rfl, hp1, hf1⟩
  rw [show tkC s 48 57 i bad = 0 by simp [tkC, hb]]
  rw [show tkI s 48 57 i bad = i by simp [tkI, hb], show tkB s 48 57 i bad = bad by simp [tkB, hb]] at hp1
  obtain ⟨-, -, c2, -⟩ := hp1.cells
  go_wp2_with fail
  first
    | (go_big_quiet (fail)
       go_wp2_with fail
       go_ret
       exact ⟨rfl, Blk.drewN hp1 _, hf1.drewNr _⟩)
    | (go_ret
       exact ⟨rfl, hp1, hf1⟩)

set_option maxRecDepth 100000 in
set_option maxHeartbeats 1000000 in
theorem num_good (w : World) (b : Nat) (s : ByteArray) (i : Nat) (v3 v4 v5 v6 : Value) (hp : PenB w b s i (-1) v3 v4 v5 v6) (hs : s.size ≤ 1000000) (hn : i ≤ s.size) :
    Calls Tryd.prog 69 #[.pointer (some ⟨b, 0, none⟩)] w fun e w' =>
      (isD (byte s i) = true → e = .returned (.int .i64 (nval s i)) ∧ PenB w' b s (nend s i) (-1) v3 v4 v5 v6) ∧
      (isD (byte s i) = false → e = .returned (.int .i64 0) ∧ PenB w' b s i i v3 v4 v5 v6) ∧ Fr (· = b) w w' := by
  go_enter Tryd.func69, Tryd.ntmps69
  go_wp2_with fail
  refine (take_at _ b s 48 57 48 57 rfl rfl i (-1) v3 v4 v5 v6 hp (by omega)).mono ?_
  rintro e w1 ⟨rfl, hp1, hf1⟩
  by_cases hd : isD (byte s i) = true
  · have hk : tkOk s 48 57 i = true := by rw [tkOk_D]; exact hd
    rw [show tkC s 48 57 i (-1) = byte s i by simp [tkC, hk]]
    rw [show tkI s 48 57 i (-1) = i + 1 by simp [tkI, hk], show tkB s 48 57 i (-1) = -1 by simp [tkB, hk]] at hp1
    have HD : Hid (isD (byte s i) = true) := hd
    obtain ⟨-, -, c2, -⟩ := hp1.cells
    by_cases h48 : byte s i = 48
    · have H48 : Hid (byte s i = 48) := h48
      rw [h48]
      clear hd hk h48
      go_wp2_with fail
      first
        | (go_big_quiet (fail)
           go_wp2_with fail
           go_ret
           exact ⟨fun _ => ⟨by rw [nval, if_pos H48.out]; rfl, by rw [nend, if_pos H48.out]; exact Blk.drewN hp1 _⟩, fun h => (by rw [HD.out] at h; cases h), hf1.drewNr _⟩)
        | (go_ret
           exact ⟨fun _ => ⟨by rw [nval, if_pos H48.out]; rfl, by rw [nend, if_pos H48.out]; exact hp1⟩, fun h => (by rw [HD.out] at h; cases h), hf1⟩)
    · have hne : (((byte s i).toNat : Int) == 48) = false := by
        rw [beq_eq_false_iff_ne]; intro h; exact h48 (UInt8.toNat_inj.1 (by show _ = 48; omega))
      obtain ⟨hks, hgo⟩ := dend_go s i hd
      have hge := dend_ge s (i + 1)
      have hle := dend_le s (i + 1) hks
      obtain ⟨d9, dv⟩ := dgt_le hd
      have HV : Hid (nval s i = min (nvF s (dend s (i + 1) - (i + 1)) (i + 1) (dgt (byte s i))) 1000000) := by show _ = _; rw [nval, if_neg h48, hgo]
      have HN : Hid (nend s i = dend s (i + 1)) := by show _ = _; rw [nend, if_neg h48, hgo]
      have hdp := dgt_pos hd h48
      clear hgo h48 hk hd hne
      rw [dv]
      generalize hdd : dgt (byte s i) = d at *
      have hne : ((48 : Int) + (d : Int) == 48) = false := by rw [beq_eq_false_iff_ne]; omega
      go_wp2_with fail
      refine (digits_any _ b s (i + 1) (-1) v3 v4 v5 v6 hp1 hs hks).mono ?_
      rintro e w2 ⟨rfl, hp2, hf2⟩
      rw [show dgI s (i + 1) (-1) = dend s (i + 1) by simp [dgI]] at hp2
      rw [show dgS s (i + 1) (-1) = cut s (i + 1) (dend s (i + 1)) by simp [dgS, dgI]]
      have hfr2 := hf1.thenr hf2 (fun _ _ h => h)
      generalize hE : dend s (i + 1) = E at *
      have hts : (cut s (i + 1) E).size = E - (i + 1) := cut_size s (i + 1) E hge hle
      have HB : Hid (∀ k, k < E - (i + 1) → byte (cut s (i + 1) E) k = byte s (i + 1 + k) ∧ isD (byte s (i + 1 + k)) = true) := by
        intro k hk
        exact ⟨byte_cut s (i + 1) E k hle (by omega), dend_in s (i + 1) (i + 1 + k) (by omega) (by omega)⟩
      have HTS : Hid _ := hts
      generalize cut s (i + 1) E = t at *
      clear hp1 hf1 hf2 hts c2
      have htl : t.size ≤ 1000000 := by have := HTS.out; omega
      go_wp2_with fail
      go_loopg [4, 6] (t.size + 1) (fun g vn vi wr => ∃ (k n : Nat), k ≤ t.size ∧ vn = .int .i64 n ∧ vi = .int .i64 k ∧ n < 10000000 ∧ wr = w2 ∧ Hid (nvF s (E - (i + 1)) (i + 1) d = nvF s (t.size - k) (i + 1 + k) n) ∧ t.size + 1 - k ≤ g)
      case atStart => exact ⟨0, d, Nat.zero_le _, by go_num, rfl, by omega, rfl, (by rw [HTS.out]; rfl), Nat.le_refl _⟩
      case round =>
        obtain ⟨k, n, hk, rfl, rfl, hnb, rfl, HP, hg⟩ := hrel
        by_cases hlt : (k : Int) < t.size
        · have hlt' : k < t.size := by omega
          obtain ⟨hbk, hdk⟩ := HB.out k (by have := HTS.out; omega)
          obtain ⟨e9, ev⟩ := dgt_le hdk
          rw [byte_in t k hlt'] at hbk
          have evI : ((t[k]).toNat) = 48 + dgt (byte s (i + 1 + k)) := by rw [hbk]; exact ev
          have HP2 : Hid (nvF s (E - (i + 1)) (i + 1) d = nvF s (t.size - (k + 1)) (i + 1 + (k + 1)) (if n < 1000000 then n * 10 + dgt (byte s (i + 1 + k)) else n)) := by
            show _ = _
            rw [HP.out, show t.size - k = (t.size - (k + 1)) + 1 by omega]
            rfl
          clear hbk hdk ev HP
          generalize dgt (byte s (i + 1 + k)) = c at *
          have evII : ((t[k]).toNat : Int) = 48 + (c : Int) := by omega
          by_cases hlg : (n : Int) < 1000000
          · have HI : Hid ((if n < 1000000 then n * 10 + c else n) = n * 10 + c) := by show _ = _; rw [if_pos (by omega)]
            go_wp2_with fail
            go_roundg (t.size + 1 - (k + 1))
            case measure => omega
            case rel => exact ⟨k + 1, n * 10 + c, by omega, by go_num, by go_num, by omega, rfl, (by rw [← HI.out]; exact HP2), Nat.le_refl _⟩
          · have hlg' : decide (n < 1000000) = false := by simp; omega
            have HI : Hid ((if n < 1000000 then n * 10 + c else n) = n) := by show _ = _; rw [if_neg (by omega)]
            go_wp2_with fail
            go_roundg (t.size + 1 - (k + 1))
            case measure => omega
            case rel => exact ⟨k + 1, n, by omega, rfl, by go_num, hnb, rfl, (by rw [← HI.out]; exact HP2), Nat.le_refl _⟩
        · have HP2 : Hid (nval s i = min n 1000000) := by
            show _ = _
            rw [HV.out, HP.out, show t.size - k = 0 by omega]
            rfl
          by_cases hlg : (1000000 : Int) < n
          · go_wp2_with fail
            go_ret
            exact ⟨fun _ => ⟨by rw [HP2.out, show min n 1000000 = 1000000 by omega]; rfl, by rw [HN.out]; exact hp2⟩, fun h => (by rw [HD.out] at h; cases h), hfr2⟩
          · have hlg' : decide (1000000 < n) = false := by simp; omega
            go_wp2_with fail
            go_ret
            exact ⟨fun _ => ⟨by rw [HP2.out, show min n 1000000 = n by omega]; rfl, by rw [HN.out]; exact hp2⟩, fun h => (by rw [HD.out] at h; cases h), hfr2⟩
  · have hd' : isD (byte s i) = false := by simpa using hd
    have hk : tkOk s 48 57 i = false := by rw [tkOk_D]; exact hd'
    rw [show tkC s 48 57 i (-1) = 0 by simp [tkC, hk]]
    rw [show tkI s 48 57 i (-1) = i by simp [tkI, hk], show tkB s 48 57 i (-1) = i by simp [tkB, hk]] at hp1
    have HD : Hid (isD (byte s i) = false) := hd'
    obtain ⟨-, -, c2, -⟩ := hp1.cells
    clear hd hd' hk
    go_wp2_with fail
    first
      | (go_big_quiet (fail)
         go_wp2_with fail
         go_ret
         exact ⟨fun h => (by rw [HD.out] at h; cases h), fun _ => ⟨rfl, Blk.drewN hp1 _⟩, hf1.drewNr _⟩)
      | (go_ret
         exact ⟨fun h => (by rw [HD.out] at h; cases h), fun _ => ⟨rfl, hp1⟩, hf1⟩)
end Go.Proofs.YtmolmbeeoecnfabDoor
