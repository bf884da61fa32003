/- Tokens in memory. -/
import Derived.Test.YtoieklacpkahbaaDoorPlainE
import Derived.Test.YtoieklacpkahbaaDoorRows
import Derived.WalkKit
import Derived.WalkSpells
import Derived.WalkLawsBesides
namespace Go.Proofs.YtoieklacpkahbaaDoor
open Go.RowKit

/-- The slice value v holds the tokens ts, in memory of the call's own (blocks from B on). -/
def Owns (w : World) (B : Nat) (v : Value) (ts : List Sc.Tok) : Prop := w.ownsRow B 37 4 v ts.length (Sc.tcells ts)

theorem Owns.nil (w : World) (B : Nat) : Owns w B (.slice none 0 0) [] := World.ownsRow_nil w B _ _

/-- What is owned is kept where nothing below has turned. -/
theorem owns_below {w w' : World} {B : Nat} {e : TypeId} {size : Nat} {v : Value} {n : Nat} {xs : List Value} (h : w.ownsRow B e size v n xs) (hb : Below w.heap.size w w') : w'.ownsRow B e size v n xs := by
  refine ⟨h.1, ?_⟩
  rcases h.2 with hn | ⟨g, cap, cur, rfl, hB, hgg, rest⟩
  · exact .inl hn
  · refine .inr ⟨g, cap, cur, rfl, hB, ?_, rest⟩
    rw [hb.block g (Array.getElem?_eq_some_iff.1 hgg).1]
    exact hgg
theorem Owns.below {w w' : World} {B : Nat} {v : Value} {ts : List Sc.Tok} (h : Owns w B v ts) (hb : Below w.heap.size w w') : Owns w' B v ts := owns_below h hb
theorem Owns.base {w : World} {B B' : Nat} {v : Value} {ts : List Sc.Tok} (h : Owns w B v ts) (hb : B' ≤ B) : Owns w B' v ts := by
  refine ⟨h.1, ?_⟩
  rcases h.2 with hn | ⟨g, cap, cur, rfl, hB, rest⟩
  · exact .inl hn
  · exact .inr ⟨g, cap, cur, rfl, by omega, rest⟩

/-- A slice value: nil, or a row; its cells. -/
theorem Owns.form {w : World} {B : Nat} {v : Value} {ts : List Sc.Tok} (h : Owns w B v ts) :
    (v = .slice none 0 0 ∧ ts = []) ∨ ∃ g cap, v = .slice (some ⟨g, 0, none⟩) ts.length cap ∧ B ≤ g ∧ g < w.heap.size ∧ ts.length ≤ cap ∧ cap ≤ maxLen ∧
      ∀ i (hi : i < ts.length),
        w.cell? ⟨g, i * 4, none⟩ = some (.int .i64 ts[i].kind) ∧ w.cell? ⟨g, i * 4 + 1, none⟩ = some (.string ⟨ts[i].text.toArray⟩) ∧
        w.cell? ⟨g, i * 4 + 2, none⟩ = some (.int .i64 ts[i].place) ∧ w.cell? ⟨g, i * 4 + 3, none⟩ = some (.bool ts[i].behind) := by
  rcases h.2 with ⟨hv, hn⟩ | ⟨g, cap, cur, hv, hB, hgg, h1, h2, h3, h4⟩
  · exact .inl ⟨hv, List.eq_nil_of_length_eq_zero hn⟩
  · refine .inr ⟨g, cap, hv, hB, (Array.getElem?_eq_some_iff.1 hgg).1, h1, h2, fun i hi => ?_⟩
    subst hv
    have hc := fun j (hj : j < ts.length * 4) => World.ownsRow.cellAt h j hj
    refine ⟨?_, ?_, ?_, ?_⟩
    · rw [hc (i * 4) (by omega), show i * 4 = i * 4 + 0 from rfl, Sc.tcells_get ts i 0 hi (by omega)]; rfl
    · rw [hc (i * 4 + 1) (by omega), Sc.tcells_get ts i 1 hi (by omega)]; rfl
    · rw [hc (i * 4 + 2) (by omega), Sc.tcells_get ts i 2 hi (by omega)]; rfl
    · rw [hc (i * 4 + 3) (by omega), Sc.tcells_get ts i 3 hi (by omega)]; rfl

theorem Owns.shape {w : World} {B : Nat} {v : Value} {ts : List Sc.Tok} (h : Owns w B v ts) : ∃ ao cap, v = .slice ao ts.length cap := by
  rcases h.form with ⟨rfl, rfl⟩ | ⟨g, cap, rfl, _⟩
  · exact ⟨_, _, rfl⟩
  · exact ⟨_, _, rfl⟩
/-- Where there is an element: the row. -/
theorem Owns.at {w : World} {B : Nat} {ao : Option Addr} {n cap : Nat} {ts : List Sc.Tok} (h : Owns w B (.slice ao n cap) ts) (i : Nat) (hi : i < ts.length) :
    ∃ g, ao = some ⟨g, 0, none⟩ ∧ n = ts.length ∧ B ≤ g ∧ g < w.heap.size ∧ ts.length ≤ cap ∧
        w.cell? ⟨g, i * 4, none⟩ = some (.int .i64 ts[i].kind) ∧ w.cell? ⟨g, i * 4 + 1, none⟩ = some (.string ⟨ts[i].text.toArray⟩) ∧
        w.cell? ⟨g, i * 4 + 2, none⟩ = some (.int .i64 ts[i].place) ∧ w.cell? ⟨g, i * 4 + 3, none⟩ = some (.bool ts[i].behind) := by
  rcases h.form with ⟨h1, rfl⟩ | ⟨g, cap', h1, h2, h3, h4, _, hc⟩
  · simp at hi
  · injection h1 with e1 e2 e3
    have := hc i hi
    exact ⟨g, e1, e2, h2, h3, by omega, this.1, this.2.1, this.2.2.1, this.2.2.2⟩

set_option maxHeartbeats 400000 in
theorem endsElement_any (v : Value) (ts : List Sc.Tok) (B : Nat) (w : World) (h : Owns w B v ts) (hn : ts.length ≤ 4096) :
    Calls Tryd.prog 58 #[v] w fun e w' => e = .returned (.bool (Sc.endsEl ts)) ∧ w' = w := by
  rcases h.form with ⟨rfl, rfl⟩ | ⟨g, cap, rfl, h1, h2, h3, h4, hc⟩
  · go_enter Tryd.func58, Tryd.ntmps58
    go_wp2
    go_ret
    exact ⟨rfl, rfl⟩
  · by_cases h0 : ts.length = 0
    · have e : ts = [] := List.eq_nil_of_length_eq_zero h0
      subst e
      clear hc h
      go_enter Tryd.func58, Tryd.ntmps58
      go_wp2
      go_ret
      exact ⟨rfl, rfl⟩
    · have hk := (hc (ts.length - 1) (by omega)).1
      have hb : ((ts.length : Int) == 0) = false := by simpa using h0
      have HE := hide (Sc.endsEl_last ts (by omega))
      clear hc h
      go_enter Tryd.func58, Tryd.ntmps58
      go_wp2
      · have hk1 : ts[ts.length - 1].kind = 1 := by assumption
        go_ret
        exact ⟨by rw [HE.out, hk1]; rfl, rfl⟩
      · go_ret
        exact ⟨by rw [HE.out]; rfl, rfl⟩
end Go.Proofs.YtoieklacpkahbaaDoor
