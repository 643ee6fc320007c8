/- Own work: the events of a right chart's transitions are small letters; the document's Events as a plain function. -/
import Derived.Test.YtmolmbeeoecnfaaPyZ7
import Derived.Test.YtmolmbeeoecnfaaEqZ
import Derived.Test.YtmolmbeeoecnfaaIdB
namespace Go.Proofs.Ytmolmbeeoecnfaa
open Go.RowKit Go.BigFrame
set_option linter.unusedVariables false
set_option linter.unusedSimpArgs false

def EvS (r : Rn) : Prop := ∀ t ∈ r.tr, isE t.event = true
theorem rtP_ev (s : ByteArray) (own i : Nat) (h : (rtP s own i).1 = true) : isE (rtP s own i).2.2.event = true := by
  unfold rtP at h ⊢
  simp only at h ⊢
  split
  · rename_i h1; rw [if_pos h1] at h; cases h
  · rename_i h1
    rw [if_neg h1] at h
    split
    · rename_i h2; rw [if_pos h2] at h; cases h
    · rename_i h2
      rw [if_neg h2] at h
      split
      · rename_i h3; rw [if_pos h3] at h; cases h
      · rename_i h3
        rw [if_neg h3] at h
        split
        · rename_i h4; rw [if_pos h4] at h; cases h
        · simpa using h1
theorem EvS.rtF {s : ByteArray} {own : Nat} : ∀ (f : Nat) (r : Rn), EvS r → (rtF s own f r).1 = true → EvS (rtF s own f r).2
  | 0, r, h, _ => h
  | f + 1, r, h, hk => by
    simp only [Proofs.Ytmolmbeeoecnfaa.rtF] at hk ⊢
    split at hk
    · rename_i h47
      rw [if_pos h47]
      split at hk
      · rename_i hok
        rw [if_pos hok]
        refine EvS.rtF f _ ?_ hk
        intro t ht
        rcases List.mem_append.1 ht with ht | ht
        · exact h t ht
        · simp only [List.mem_cons, List.not_mem_nil, or_false] at ht
          rw [ht]; exact rtP_ev s own r.i hok
      · cases hk
    · rename_i h47
      rw [if_neg h47]; exact h
theorem EvS.riF {s : ByteArray} {g : Rn → Bool × Rn} (hg : ∀ q, EvS q → (g q).1 = true → EvS (g q).2) : ∀ (f n : Nat) (r : Rn), EvS r → (riF s g f n r).1 = true → EvS (riF s g f n r).2.2
  | 0, n, r, h, _ => h
  | f + 1, n, r, h, hk => by
    simp only [Proofs.Ytmolmbeeoecnfaa.riF] at hk ⊢
    split at hk
    · rename_i h1
      rw [if_pos h1]
      split at hk
      · rename_i h2
        rw [if_pos h2]
        exact EvS.riF hg f _ _ (hg r h h2) hk
      · cases hk
    · rename_i h1
      rw [if_neg h1]; exact h
theorem EvS.riP {s : ByteArray} {g : Rn → Bool × Rn} (hg : ∀ q, EvS q → (g q).1 = true → EvS (g q).2) (fin : UInt8) (least : Nat) (r : Rn) (h : EvS r) (hk : (riP s g fin least r).1 = true) : EvS (riP s g fin least r).2 := by
  have h1 : (riL s g 0 { r with i := r.i + 1 }).1 = true → EvS (riL s g 0 { r with i := r.i + 1 }).2.2 := EvS.riF hg _ 0 { r with i := r.i + 1 } h
  unfold Proofs.Ytmolmbeeoecnfaa.riP at hk ⊢
  split
  · rename_i h2; rw [if_pos h2] at hk; cases hk
  · rename_i h2
    rw [if_neg h2] at hk
    split
    · rename_i h3; rw [if_pos h3] at hk; cases hk
    · exact h1 (by simpa using h2)
theorem EvS.rsF {s : ByteArray} : ∀ (f : Nat) (r : Rn) (outer : Int) (depth : Nat), EvS r → (rsF s f r outer depth).1 = true → EvS (rsF s f r outer depth).2
  | 0, r, _, _, h, _ => h
  | f + 1, r, outer, depth, h, hk => by
    simp only [Proofs.Ytmolmbeeoecnfaa.rsF] at hk ⊢
    split
    · rename_i h1; rw [if_pos h1] at hk; cases hk
    · rename_i h1
      rw [if_neg h1] at hk
      split
      · rename_i h2; rw [if_pos h2] at hk; cases hk
      · rename_i h2
        rw [if_neg h2] at hk
        split
        · rename_i h3; rw [if_pos h3] at hk; cases hk
        · rename_i h3
          rw [if_neg h3] at hk
          have h3' : EvS (rs3 s r.st.length (rs1 s r outer depth)) := h
          have h4 : (rs4 s (fun q => Proofs.Ytmolmbeeoecnfaa.rsF s f q (r.st.length : Nat) (depth + 1)) r.st.length (rs3 s r.st.length (rs1 s r outer depth))).1 = true → EvS (rs4 s (fun q => Proofs.Ytmolmbeeoecnfaa.rsF s f q (r.st.length : Nat) (depth + 1)) r.st.length (rs3 s r.st.length (rs1 s r outer depth))).2 := by
            unfold rs4
            split
            · exact fun hh => EvS.riP (fun q hq hq2 => EvS.rsF f q _ _ hq hq2) _ _ _ h3' hh
            · split
              · exact fun hh => EvS.riP (fun q hq hq2 => EvS.rsF f q _ _ hq hq2) _ _ _ h3' hh
              · exact fun _ => h3'
          generalize rs4 s (fun q => Proofs.Ytmolmbeeoecnfaa.rsF s f q (r.st.length : Nat) (depth + 1)) r.st.length (rs3 s r.st.length (rs1 s r outer depth)) = q4 at *
          unfold rs5 at hk ⊢
          split
          · rename_i h5; rw [if_pos h5, h5] at hk; cases hk
          · rename_i h5
            rw [if_neg h5] at hk
            exact EvS.rtF _ _ (show EvS (setEP q4.2 r.st.length q4.2.st.length) from h4 (by simpa using h5)) hk
theorem un_ev {s : ByteArray} (h : (unE s).1 = 0) : ∀ t ∈ unTr s, isE t.event = true := by
  have h1 := (unE_ok h).2.1
  have h2 : (rcR s).1 = true := by rw [rcK, Bool.and_eq_true] at h1; exact h1.1
  have h3 : EvS (rcR s).2 := EvS.rsF _ _ _ _ (fun t ht => by simp [R0] at ht) h2
  intro t ht
  obtain ⟨t0, ht0, rfl⟩ := List.mem_map.1 ht
  exact h3 t0 ht0

/-- A byte that is not among the chart's events is no transition's event. -/
theorem noEv_of {s : ByteArray} (h : (unE s).1 = 0) (c : UInt8) (hc : c ∉ (evK (rd s).tr 26).data.toList) : NoEv (th0 s) c := by
  intro t ht he
  obtain ⟨q, hq, rfl⟩ := List.mem_map.1 ht
  have he' : q.event = c := he
  have h1 := un_ev h q hq
  rw [he', isE_iff] at h1
  apply hc
  refine evK_mem _ c 26 ⟨c.toNat - 97, by omega, ?_⟩ ?_
  · apply UInt8.toNat_inj.1
    rw [UInt8.toNat_ofNat', show 97 + (c.toNat - 97) = c.toNat by omega]
    have := c.toNat_lt
    omega
  · have h2 := (unE_ok h).2.1
    have h3 : (rcR s).1 = true := by rw [rcK, Bool.and_eq_true] at h2; exact h2.1
    have hM := (rd_eq s).1 h3
    unfold hasEv
    rw [hM.tr, List.any_eq_true]
    obtain ⟨q0, hq0, rfl⟩ := List.mem_map.1 hq
    exact ⟨toTr q0, List.mem_map.2 ⟨q0, hq0, rfl⟩, by rw [beq_iff_eq]; exact he'⟩

/-! What Idle asks. -/
theorem plK_tail (st : List StP) (th : List TrH) (p : Nat → Py) (q : Nat → Py) : True := trivial
theorem byte_appL (a b : ByteArray) (k : Nat) (h : k < a.size) : byte (a ++ b) k = byte a k := by
  rw [byte_in _ _ (by rw [ByteArray.size_append]; omega), byte_in _ _ h, ByteArray.getElem_append_left h]
theorem byte_appR (a b : ByteArray) (k : Nat) (h : k < b.size) : byte (a ++ b) (a.size + k) = byte b k := by
  rw [byte_in _ _ (by rw [ByteArray.size_append]; omega), byte_in _ _ h, ByteArray.getElem_append_right (by omega)]
  congr 1; omega
/-- Two lists of events with the same end, from statuses that are one. -/
theorem plK_eqv (st : List StP) (th : List TrH) (e1 e2 : ByteArray) (k1 k2 : Nat) (h : Eqv (plK st th e1 k1) (plK st th e2 k2)) : ∀ j, (∀ i, i < j → byte e1 (k1 + i) = byte e2 (k2 + i)) → Eqv (plK st th e1 (k1 + j)) (plK st th e2 (k2 + j))
  | 0, _ => h
  | j + 1, hb => by
    have ih := plK_eqv st th e1 e2 k1 k2 h j (fun i hi => hb i (by omega))
    show Eqv (evStep st th (plK st th e1 (k1 + j)) (byte e1 (k1 + j))) (evStep st th (plK st th e2 (k2 + j)) (byte e2 (k2 + j)))
    rw [hb j (by omega)]
    exact evStep_eqv st th _ _ _ ih
theorem plQ_one {s : ByteArray} {c : UInt8} (h : NoEv (th0 s) c) (a : ByteArray) : plQ s (a ++ ⟨#[c]⟩) = { plQ s a with out := (plQ s a).out ++ [46] } := by
  unfold plQ
  have hsz : (a ++ ⟨#[c]⟩ : ByteArray).size = a.size + 1 := by rw [ByteArray.size_append]; rfl
  rw [hsz]
  show evStep (unSt s) (th0 s) (plK (unSt s) (th0 s) (a ++ ⟨#[c]⟩) a.size) (byte (a ++ ⟨#[c]⟩) a.size) = _
  have e : byte (a ++ ⟨#[c]⟩) a.size = c := by
    have := byte_appR a ⟨#[c]⟩ 0 (by show 0 < 1; omega)
    rw [Nat.add_zero] at this
    rw [this]; rfl
  rw [e, plK_app (unSt s) (th0 s) a ⟨#[c]⟩ a.size (Nat.le_refl _), evStep_no h]
theorem idle_out {s : ByteArray} {c : UInt8} (hE : (unE s).1 = 0) (h : NoEv (th0 s) c) (a : ByteArray) : pO s (a ++ ⟨#[c]⟩) = pO s a ++ ⟨#[46]⟩ := by
  rw [pO, pO, if_pos hE, if_pos hE, plQ_one h]
  apply ByteArray.ext
  rw [ByteArray.data_append]
  apply Array.toList_inj.1
  simp
theorem idle_st {s : ByteArray} {c : UInt8} (h : NoEv (th0 s) c) (a : ByteArray) : pS s (a ++ ⟨#[c]⟩) = pS s a := by
  rw [pS, pS, plQ_one h]
theorem idle_far {s : ByteArray} {c : UInt8} (h : NoEv (th0 s) c) (a b : ByteArray) : pS s (a ++ ⟨#[c]⟩ ++ b) = pS s (a ++ b) := by
  have h1 : Eqv (plQ s (a ++ ⟨#[c]⟩ ++ b)) (plQ s (a ++ b)) := by
    unfold plQ
    have hsz : (a ++ ⟨#[c]⟩ : ByteArray).size = a.size + 1 := by rw [ByteArray.size_append]; rfl
    rw [ByteArray.size_append (a := a ++ ⟨#[c]⟩), ByteArray.size_append (a := a) (b := b)]
    refine plK_eqv _ _ _ _ _ _ ?_ b.size ?_
    · rw [plK_app (unSt s) (th0 s) (a ++ ⟨#[c]⟩) b _ (Nat.le_refl _), plK_app (unSt s) (th0 s) a b _ (Nat.le_refl _)]
      have := plQ_one h a
      unfold plQ at this
      rw [this]
      exact ⟨rfl, rfl⟩
    · intro i hi
      rw [byte_appR _ _ _ hi, byte_appR _ _ _ hi]
  rw [pS, pS, h1.1, h1.2]
end Go.Proofs.Ytmolmbeeoecnfaa
