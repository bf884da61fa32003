/- Plain laws: for the walks of the second layout. No program here. -/
import Derived.Test.YtigdfhcmhidhbaaDoorPlainQ
namespace Go.Proofs.YtigdfhcmhidhbaaDoor
open Go.RowKit
namespace Sc
/-- The token at a place of a row, of which only the keys are known. -/
theorem tok_at {ts : List Tok} {i : Nat} {t : Tok} {r : List Tok} (h : (ts.drop i).map erase = t :: r) : ∃ hi : i < ts.length, ts[i].kind = t.kind ∧ ts[i].text = t.text ∧ ts[i].behind = t.behind ∧ (ts.drop (i + 1)).map erase = r := by
  have hi : i < ts.length := by
    by_cases hi : i < ts.length
    · exact hi
    · rw [List.drop_eq_nil_of_le (by omega)] at h; simp at h
  rw [List.drop_eq_getElem_cons hi, List.map_cons] at h
  injection h with h1 h2
  exact ⟨hi, by rw [← h1]; rfl, by rw [← h1]; rfl, by rw [← h1]; rfl, h2⟩
theorem tok_next {ts : List Tok} {i : Nat} {a b : List Tok} (h : (ts.drop i).map erase = a ++ b) : (ts.drop (i + a.length)).map erase = b := by
  induction a generalizing i with
  | nil => simpa using h
  | cons t a ih =>
    obtain ⟨_, _, _, _, h2⟩ := tok_at h
    have := ih h2
    rw [List.length_cons, show i + (a.length + 1) = i + 1 + a.length by omega]; exact this
theorem tok_get {ts : List Tok} {i : Nat} {a b : List Tok} (h : (ts.drop i).map erase = a ++ b) (j : Nat) (hj : j < a.length) : ∃ hi : i + j < ts.length, ts[i + j].kind = a[j].kind ∧ ts[i + j].text = a[j].text ∧ ts[i + j].behind = a[j].behind := by
  have e : a = a.take j ++ a[j] :: a.drop (j + 1) := by rw [← List.drop_eq_getElem_cons hj, List.take_append_drop]
  have hl : (a.take j).length = j := by rw [List.length_take]; omega
  rw [e, List.append_assoc] at h
  have := tok_next h
  rw [hl, List.cons_append] at this
  obtain ⟨hi, h1, h2, h3, _⟩ := tok_at this
  exact ⟨hi, h1, h2, h3⟩
def stp (t : Tok) : Int := (if t.kind = 2 then 1 else 0) - (if t.kind = 3 then 1 else 0)
theorem net_take (T : List Tok) (j : Nat) (hj : j < T.length) : net (T.take (j + 1)) = net (T.take j) + stp T[j] := by
  rw [List.take_succ_eq_append_getElem hj, net_app]
  simp only [net, stp]; omega
theorem net_le (T : List Tok) : net T ≤ T.length ∧ -(T.length : Int) ≤ net T := by
  induction T with
  | nil => simp [net]
  | cons t T ih =>
    simp only [net, List.length_cons]
    constructor
    · split <;> split <;> omega
    · split <;> split <;> omega
theorem lst_net_all {o c : Tok} {es : List El} (h : (El.lst o es c).WF) : net (El.lst o es c).toks = 0 := (El.net_ok _ h).1
theorem colB_take (l : List UInt8) (m : Nat) (hm : m < l.length) : colB 0 (l.take (m + 1)) = if l[m] = 10 then 0 else colB 0 (l.take m) + 1 := by
  rw [List.take_succ_eq_append_getElem hm, colB_snoc]
end Sc
end Go.Proofs.YtigdfhcmhidhbaaDoor
