/- Plain laws: the flat text as it grows. No program here. -/
import Derived.Test.YtigdfhcmhidhbaaDoorPlainK
namespace Go.Proofs.YtigdfhcmhidhbaaDoor
open Go.RowKit
namespace Sc
/-- The flat text of tokens. -/
def flP : List Tok → List (List UInt8 × Tok)
  | [] => []
  | t :: ts => ([], t) :: fl t ts
/-- The flat text of the first k. -/
def flS (T : List Tok) (k : Nat) : List UInt8 := render ((flP T).take k) []
theorem fl_length : ∀ (p : Tok) (ts : List Tok), (fl p ts).length = ts.length
  | _, [] => rfl
  | p, t :: ts => by rw [fl, List.length_cons, List.length_cons, fl_length t ts]
theorem flP_length (T : List Tok) : (flP T).length = T.length := by
  cases T with
  | nil => rfl
  | cons t ts => rw [flP, List.length_cons, List.length_cons, fl_length]
theorem fl_get : ∀ (p : Tok) (ts : List Tok) (k : Nat) (h : k < ts.length), (fl p ts)[k]? = some (flatGap ((p :: ts)[k]'(by simp; omega)) ts[k], ts[k])
  | _, [], k, h => by simp at h
  | p, t :: ts, 0, _ => by simp [fl]
  | p, t :: ts, k + 1, h => by
    rw [fl, List.getElem?_cons_succ, fl_get t ts k (by simpa using h)]
    simp
theorem flP_get (T : List Tok) (k : Nat) (h : k + 1 < T.length) : (flP T)[k + 1]? = some (flatGap T[k] T[k + 1], T[k + 1]) := by
  cases T with
  | nil => simp at h
  | cons t ts => rw [flP, List.getElem?_cons_succ, fl_get t ts k (by simpa using h)]; simp
theorem flS_zero (T : List Tok) : flS T 0 = [] := rfl
theorem flS_one (T : List Tok) (h : 0 < T.length) : flS T 1 = T[0].text := by
  cases T with
  | nil => simp at h
  | cons t ts => simp [flS, flP, render]
theorem flS_next (T : List Tok) (k : Nat) (h : k + 1 < T.length) : flS T (k + 2) = flS T (k + 1) ++ (flatGap T[k] T[k + 1] ++ T[k + 1].text) := by
  have hg := flP_get T k h
  have hl : k + 1 < (flP T).length := by rw [flP_length]; omega
  rw [List.getElem?_eq_getElem hl] at hg
  injection hg with hg
  unfold flS
  rw [List.take_succ_eq_append_getElem hl, render_app, render_tl, hg]
  simp [render]
theorem wt_take (T : List Tok) (k : Nat) : wt (T.take k) ≤ wt T := by
  conv => rhs; rw [← List.take_append_drop k T, wt_app]
  omega
theorem flS_len (T : List Tok) : ∀ k, k ≤ T.length → (flS T k).length ≤ wt (T.take k)
  | 0, _ => by simp [flS_zero]
  | 1, h => by
    rw [flS_one T (by omega), List.take_succ_eq_append_getElem (by omega), wt_app]
    simp [wt]
  | k + 2, h => by
    have := flS_len T (k + 1) (by omega)
    rw [flS_next T k (by omega), List.take_succ_eq_append_getElem (by omega : k + 1 < T.length), wt_app]
    simp only [wt, List.length_append]
    have hg : (flatGap T[k] T[k + 1]).length ≤ 1 := by unfold flatGap; split <;> simp
    omega
theorem flS_all (e : El) (hw : e.WF) : flS e.toks e.toks.length = render (e.flat []) [] := by
  obtain ⟨r, hr⟩ := e.toks_first
  unfold flS
  rw [List.take_of_length_le (by rw [flP_length]; omega), El.flat_fl e hw [] r hr, hr, flP]
/-- Is there a comment among them? -/
def hasC (T : List Tok) : Bool := T.any (fun t => t.kind == 5)
theorem hasC_com (e : El) : hasC e.toks = e.com := rfl
theorem hasC_hit (T : List Tok) (k : Nat) (h : k < T.length) (h5 : T[k].kind = 5) : hasC T = true := by
  unfold hasC; exact List.any_eq_true.2 ⟨T[k], List.getElem_mem h, by simp [h5]⟩
theorem hasC_no (T : List Tok) (h : ∀ k (hk : k < T.length), T[k].kind ≠ 5) : hasC T = false := by
  unfold hasC
  rw [List.any_eq_false]
  intro t ht
  obtain ⟨k, hk, rfl⟩ := List.getElem_of_mem ht
  simpa using h k hk
end Sc
end Go.Proofs.YtigdfhcmhidhbaaDoor
