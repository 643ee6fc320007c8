/- Own work: the shape of what the program's reader has read. -/
import Derived.Test.YtmolmbeeoecnfaaPyO
namespace Go.Proofs.Ytmolmbeeoecnfaa
open Go.RowKit Go.BigFrame
set_option linter.unusedVariables false
set_option linter.unusedSimpArgs false

/-- What is said of state k, among n of them. -/
structure StK (s : ByteArray) (n k : Nat) (x : StP) : Prop where
  e1 : k < x.end_
  e2 : x.end_ ≤ n
  o1 : -1 ≤ x.outer
  o2 : x.outer < k
  kd : x.kind ≠ 0 → k + 1 < x.end_
  en : x.enter.size ≤ s.size
  le : x.leave.size ≤ s.size
  nm : isN x.name = true
  rm : x.rem = false
theorem StK.mono {s : ByteArray} {n m k : Nat} {x : StP} (h : StK s n k x) (hn : n ≤ m) : StK s m k x := ⟨h.e1, Nat.le_trans h.e2 hn, h.o1, h.o2, h.kd, h.en, h.le, h.nm, h.rm⟩
structure Shp (s : ByteArray) (r q : Rn) : Prop where
  pre : r.st <+: q.st
  each : ∀ (k : Nat) (x : StP), r.st.length ≤ k → q.st[k]? = some x → StK s q.st.length k x
  trs : ∀ t ∈ q.tr, t ∈ r.tr ∨ (t.own < q.st.length ∧ t.acts.size ≤ s.size)
theorem Shp.refl (s : ByteArray) (r : Rn) : Shp s r r := ⟨List.prefix_refl _, fun k x h hx => by have := (List.getElem?_eq_some_iff.1 hx).1; omega, fun t ht => Or.inl ht⟩
theorem pre_get {α : Type} {l m : List α} (h : l <+: m) {k : Nat} (hk : k < l.length) : m[k]? = l[k]? := by
  obtain ⟨t, rfl⟩ := h
  exact List.getElem?_append_left hk
theorem Shp.trans {s : ByteArray} {r q z : Rn} (h : Shp s r q) (g : Shp s q z) : Shp s r z where
  pre := h.pre.trans g.pre
  each := fun k x hk hx => by
    by_cases hq : k < q.st.length
    · rw [pre_get g.pre hq] at hx
      exact (h.each k x hk hx).mono g.pre.length_le
    · exact g.each k x (by omega) hx
  trs := fun t ht => by
    rcases g.trs t ht with h1 | h1
    · rcases h.trs t h1 with h2 | h2
      · exact Or.inl h2
      · exact Or.inr ⟨Nat.lt_of_lt_of_le h2.1 g.pre.length_le, h2.2⟩
    · exact Or.inr h1
theorem cut_le (s : ByteArray) (i j : Nat) : (cut s i j).size ≤ s.size := by
  show ((s.data.toList.drop i).take (j - i)).toArray.size ≤ _
  rw [List.size_toArray, List.length_take, List.length_drop]
  have : s.data.toList.length = s.size := rfl
  omega
theorem abS_le (s : ByteArray) (sg : UInt8) (i : Nat) : (abS s sg i).size ≤ s.size := by
  unfold abS; split
  · exact cut_le _ _ _
  · exact Nat.zero_le _
theorem rtP_own (s : ByteArray) (own i : Nat) (h : (rtP s own i).1 = true) : (rtP s own i).2.2.own = own ∧ (rtP s own i).2.2.acts.size ≤ s.size := by
  unfold rtP at h ⊢
  simp only at h ⊢
  split at h
  · cases h
  · rw [if_neg ‹_›]
    split at h
    · cases h
    · rw [if_neg ‹_›]
      split at h
      · cases h
      · rw [if_neg ‹_›]
        split at h
        · cases h
        · rw [if_neg ‹_›]
          exact ⟨rfl, cut_le _ _ _⟩
theorem rtF_trs (s : ByteArray) (own : Nat) : ∀ (f : Nat) (r : Rn), (rtF s own f r).1 = true → (rtF s own f r).2.st = r.st ∧ ∀ t ∈ (rtF s own f r).2.tr, t ∈ r.tr ∨ (t.own = own ∧ t.acts.size ≤ s.size)
  | 0, r, _ => ⟨rfl, fun t ht => Or.inl ht⟩
  | f + 1, r, hk => by
    simp only [rtF] at hk ⊢
    split at hk
    · rename_i h47
      rw [if_pos h47]
      split at hk
      · rename_i hok
        rw [if_pos hok]
        have ih := rtF_trs s own f _ hk
        refine ⟨ih.1, fun t ht => ?_⟩
        rcases ih.2 t ht with h1 | h1
        · rcases List.mem_append.1 h1 with h2 | h2
          · exact Or.inl h2
          · simp only [List.mem_cons, List.not_mem_nil, or_false] at h2
            rw [h2]; exact Or.inr (rtP_own s own r.i hok)
        · exact Or.inr h1
      · cases hk
    · rename_i h47
      rw [if_neg h47]
      exact ⟨rfl, fun t ht => Or.inl ht⟩
theorem riF_shp (s : ByteArray) (g : Rn → Bool × Rn) (m L : Nat) (hgo : ∀ q, RdInv s q → m ≤ q.i → (g q).1 = true → GoesR s q (g q).2) (hg : ∀ q, RdInv s q → m ≤ q.i → L ≤ q.st.length → (g q).1 = true → Shp s q (g q).2 ∧ q.st.length < (g q).2.st.length) : ∀ (f n : Nat) (r : Rn), RdInv s r → m ≤ r.i → L ≤ r.st.length → (riF s g f n r).1 = true → Shp s r (riF s g f n r).2.2 ∧ ((riF s g f n r).2.1 = n ∨ r.st.length < (riF s g f n r).2.2.st.length)
  | 0, n, r, h, hm, hL, _ => ⟨Shp.refl _ _, Or.inl rfl⟩
  | f + 1, n, r, h, hm, hL, hk => by
    simp only [riF] at hk ⊢
    split at hk
    · rename_i hN
      rw [if_pos hN]
      split at hk
      · rename_i hok
        rw [if_pos hok]
        have hq := hgo r h hm hok
        have hs := hg r h hm hL hok
        have := hq.i
        have ih := riF_shp s g m L hgo hg f (n + 1) (g r).2 hq.inv (by omega) (by omega) hk
        exact ⟨hs.1.trans ih.1, Or.inr (Nat.lt_of_lt_of_le hs.2 ih.1.pre.length_le)⟩
      · cases hk
    · rename_i hN
      rw [if_neg hN]
      exact ⟨Shp.refl _ _, Or.inl rfl⟩
theorem riP_shp (s : ByteArray) (g : Rn → Bool × Rn) (fin : UInt8) (least : Nat) (hl : 1 ≤ least) (L : Nat) (r : Rn) (hi : RdInv s r) (hn : r.i < s.size) (hL : L ≤ r.st.length) (hgo : ∀ q, RdInv s q → r.i + 1 ≤ q.i → (g q).1 = true → GoesR s q (g q).2) (hg : ∀ q, RdInv s q → r.i + 1 ≤ q.i → L ≤ q.st.length → (g q).1 = true → Shp s q (g q).2 ∧ q.st.length < (g q).2.st.length) (hk : (riP s g fin least r).1 = true) :
    Shp s r (riP s g fin least r).2 ∧ r.st.length < (riP s g fin least r).2.st.length := by
  have h1 : RdInv s { r with i := r.i + 1 } := ⟨hn, by have := hi.2.1; simp only; omega, by have := hi.2.2; simp only; omega⟩
  unfold riP at hk ⊢
  split at hk
  · cases hk
  · rename_i hL2
    rw [if_neg hL2]
    split at hk
    · cases hk
    · rename_i hc
      rw [if_neg hc]
      have h9 : (riL s g 0 { r with i := r.i + 1 }).1 = true := by simpa using hL2
      have h2 := riF_shp s g (r.i + 1) L hgo hg (s.size - (r.i + 1)) 0 { r with i := r.i + 1 } h1 (Nat.le_refl _) hL h9
      have e : riL s g 0 { r with i := r.i + 1 } = riF s g (s.size - (r.i + 1)) 0 { r with i := r.i + 1 } := rfl
      rw [← e] at h2
      have h3 : ¬ (riL s g 0 { r with i := r.i + 1 }).2.1 < least := fun h => hc (Or.inl h)
      refine ⟨⟨h2.1.pre, h2.1.each, h2.1.trs⟩, ?_⟩
      rcases h2.2 with h4 | h4
      · omega
      · exact h4
end Go.Proofs.Ytmolmbeeoecnfaa
