/- Own work: the first number with a property. -/
namespace Go.Proofs.Ytmolmbeeoecnfaa

/-- The first k below n of which P holds. -/
def firstB (P : Nat → Bool) : Nat → Option Nat
  | 0 => none
  | n + 1 => match firstB P n with
    | some k => some k
    | none => if P n = true then some n else none

theorem firstB_none (P : Nat → Bool) : ∀ n, (∀ j, j < n → P j = false) → firstB P n = none
  | 0, _ => rfl
  | n + 1, h => by
    simp only [firstB]
    rw [firstB_none P n (fun j hj => h j (by omega)), if_neg (by simp [h n (by omega)])]

theorem firstB_some (P : Nat → Bool) (k : Nat) (hk : P k = true) (hj : ∀ j, j < k → P j = false) : ∀ n, k < n → firstB P n = some k
  | 0, h => by omega
  | n + 1, h => by
    simp only [firstB]
    by_cases e : k < n
    · rw [firstB_some P k hk hj n e]
    · have : n = k := by omega
      subst this
      rw [firstB_none P n hj, if_pos hk]

theorem firstB_spec (P : Nat → Bool) : ∀ n, (firstB P n = none ∧ ∀ j, j < n → P j = false) ∨ ∃ k, firstB P n = some k ∧ k < n ∧ P k = true ∧ ∀ j, j < k → P j = false
  | 0 => Or.inl ⟨rfl, fun j h => by omega⟩
  | n + 1 => by
    rcases firstB_spec P n with ⟨h1, h2⟩ | ⟨k, h1, h2, h3, h4⟩
    · cases hp : P n
      · exact Or.inl ⟨by simp [firstB, h1, hp], fun j hj => by by_cases e : j = n; exact e ▸ hp; exact h2 j (by omega)⟩
      · exact Or.inr ⟨n, by simp [firstB, h1, hp], by omega, hp, h2⟩
    · exact Or.inr ⟨k, by simp [firstB, h1], by omega, h3, h4⟩

theorem firstB_congr (P Q : Nat → Bool) (n : Nat) (h : ∀ j, j < n → P j = Q j) : firstB P n = firstB Q n := by
  induction n with
  | zero => rfl
  | succ n ih => simp only [firstB]; rw [ih (fun j hj => h j (by omega)), h n (by omega)]

theorem below_step {P : Nat → Bool} {k : Nat} (h : ∀ j, j < k → P j = false) (hk : P k = false) : ∀ j, j < k + 1 → P j = false := by
  intro j hj
  by_cases e : j = k
  · exact e ▸ hk
  · exact h j (by omega)
end Go.Proofs.Ytmolmbeeoecnfaa
