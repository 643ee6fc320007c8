/- Own work: what Play answers, as plain functions of the texts; the walk of Onward. -/
import Derived.Test.YtmolmbeeoecnfaaPyT
namespace Go.Proofs.Ytmolmbeeoecnfaa
open Go.RowKit Go.BigFrame
set_option linter.unusedVariables false
set_option linter.unusedSimpArgs false

theorem itF_alen (g : Nat → Py → Py) (hg : ∀ i (p : Py), (g i p).act.length = p.act.length) : ∀ (n i : Nat) (p : Py), (itF g n i p).act.length = p.act.length
  | 0, i, p => rfl
  | n + 1, i, p => (itF_alen g hg n (i + 1) (g i p)).trans (hg i p)
theorem enF_alen (st : List StP) : ∀ (f s : Nat) (a : Am) (p : Py), (enF st f s a p).act.length = p.act.length
  | 0, s, a, p => rfl
  | f + 1, s, a, p => by
    rw [enF]
    split
    · rfl
    · rename_i x hx
      have h1 : ({ p with act := p.act.set s true, out := p.out ++ bls x.enter } : Py).act.length = p.act.length := List.length_set
      split
      · refine (itF_alen _ ?_ _ _ _).trans h1
        intro i q
        split
        · exact enF_alen st f i a q
        · rfl
      · split
        · exact (enF_alen st f _ _ _).trans h1
        · exact h1
theorem tkF_alen (st : List StP) (t : TrQ) (p : Py) : (tkF st t p).act.length = p.act.length := by
  unfold tkF
  rw [enF_alen]
  show (lvF st (lefB st p.act t) st.length (rmF st (lefB st p.act t) st.length p)).act.length = _
  rw [lvF_len, rmF_act]
theorem fold_rt (st : List StP) (th : List TrH) (hs : 0 < st.length) : ∀ (ns : List Nat) (p : Py), p.act.length = 26 → Rt p → (ns.foldl (tk1 st th) p).act.length = 26 ∧ Rt (ns.foldl (tk1 st th) p)
  | [], p, h1, h2 => ⟨h1, h2⟩
  | n :: ns, p, h1, h2 => by
    rw [List.foldl_cons]
    refine fold_rt st th hs ns _ ?_ ?_
    · unfold tk1; split
      · rw [tkF_alen]; exact h1
      · exact h1
    · unfold tk1; split
      · exact tkF_rt st _ p hs h1 h2
      · exact h2
theorem plK_rt (st : List StP) (th : List TrH) (es : ByteArray) (hs : 0 < st.length) : ∀ k, (plK st th es k).act.length = 26 ∧ Rt (plK st th es k)
  | 0 => ⟨by show (enF st 26 0 Am.free py0).act.length = 26; rw [enF_alen]; rfl, enF_rt0 st 25 _ _ hs rfl⟩
  | k + 1 => by
    have ih := plK_rt st th es hs k
    exact fold_rt st th hs (tkn st th (plK st th es k).act (byte es k)) { plK st th es k with out := (plK st th es k).out ++ [46] } ih.1 ih.2
theorem nmK_ne (st : List StP) (l : List Bool) (h : mem l 0 = true) : ∀ k, 0 < k → nmK st l k ≠ []
  | 0, h0 => by omega
  | 1, _ => by simp [nmK, h]
  | k + 2, _ => by
    have ih := nmK_ne st l h (k + 1) (by omega)
    rw [nmK]; split
    · simp
    · exact ih
theorem stT_ne (st : List StP) (act : List Bool) (mm : List (List Bool)) (h : mem act 0 = true) (hs : 0 < st.length) : ∀ k, stT st act mm k ≠ []
  | 0 => nmK_ne st act h _ hs
  | k + 1 => by
    have ih := stT_ne st act mm h hs k
    rw [stT]; split
    · exact ih
    · intro e; simp at e

def th0 (s : ByteArray) : List TrH := (unTr s).map fun q => ⟨q, .slice none 0 0⟩
theorem th0_q (s : ByteArray) : (th0 s).map TrH.q = unTr s := by
  unfold th0
  rw [List.map_map]
  show (unTr s).map (fun q => q) = _
  simp
def plQ (s es : ByteArray) : Py := plK (unSt s) (th0 s) es es.size
/-- What Play puts out, and the status' text. -/
def pO (s es : ByteArray) : ByteArray := if (unE s).1 = 0 then ⟨(plQ s es).out.toArray⟩ else ⟨#[]⟩
def pS (s es : ByteArray) : ByteArray := if (unE s).1 = 0 then ⟨(stT (unSt s) (plQ s es).act (plQ s es).mm (unSt s).length).toArray⟩ else ⟨#[]⟩
theorem unE_2 {s : ByteArray} (h : (unE s).1 = 0) : (unE s).2 = 0 := by
  unfold unE at h ⊢
  repeat' split at h
  all_goals first | cases h | skip
  all_goals simp_all
  all_goals rw [if_neg (by omega)]
theorem pplay_ok (w : World) (s es : ByteArray) (hm : s.size ≤ maxLen) (hes : es.size ≤ 400) :
    Calls Try.prog 16 #[.string s, .string es] w fun e w' => e = .returned (.tuple #[.string (pO s es), .string (pS s es), .int .i64 (unE s).1, .int .i64 (unE s).2]) ∧ Fr (fun _ => False) w w' ∧ (pO s es).size ≤ 70000000000000 := by
  refine (pplay_any w s es hm hes (plan_ok s)).mono ?_
  rintro e w' ⟨hf, ⟨h1, rfl⟩ | ⟨h1, th, hth, hlb, rfl⟩⟩
  · refine ⟨?_, hf, by rw [pO, if_neg h1]; exact Nat.zero_le _⟩
    rw [pO, pS, if_neg h1, if_neg h1]
  · have e1 := plK_congr (hth.trans (th0_q s).symm) (unSt s) es es.size
    refine ⟨?_, hf, by rw [pO, if_pos h1, plQ, ← e1]; exact hlb⟩
    rw [pO, pS, if_pos h1, if_pos h1, plQ, e1, unE_2 h1, h1]
    rfl
/-! What Onward asks. -/
theorem th0_nop (s : ByteArray) : ∀ t ∈ th0 s, NoP t.q.acts := by
  intro t ht
  obtain ⟨q, hq, rfl⟩ := List.mem_map.1 ht
  exact (un_dig s).2 q hq
theorem pS_ne {s : ByteArray} (h : (unE s).1 = 0) (es : ByteArray) : pS s es ≠ ⟨#[]⟩ := by
  have h0 := (plan_ok s h).s0
  have h1 := stT_ne (unSt s) (plQ s es).act (plQ s es).mm (plK_rt (unSt s) (th0 s) es h0 es.size).2 h0 (unSt s).length
  rw [pS, if_pos h]
  intro e
  injection e with e
  exact h1 (by simpa using e)
theorem pO_count {s : ByteArray} (h : (unE s).1 = 0) (es : ByteArray) : (pO s es).data.toList.count 46 = es.size := by
  rw [pO, if_pos h]
  exact plK_count (un_dig s).1 (th0 s) (th0_nop s) es es.size
theorem pO_pre {s : ByteArray} (h : (unE s).1 = 0) (a b : ByteArray) : (pO s a).data.toList <+: (pO s (a ++ b)).data.toList := by
  rw [pO, pO, if_pos h, if_pos h]
  show (plQ s a).out <+: (plQ s (a ++ b)).out
  unfold plQ
  rw [← plK_app (unSt s) (th0 s) a b a.size (Nat.le_refl _), ByteArray.size_append]
  exact plK_pre (unSt s) (th0 s) (a ++ b) a.size b.size
end Go.Proofs.Ytmolmbeeoecnfaa
