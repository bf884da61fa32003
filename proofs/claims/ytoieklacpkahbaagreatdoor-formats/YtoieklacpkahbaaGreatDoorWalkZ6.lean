/- Walks: the second layout's Format. -/
import Derived.Test.YtoieklacpkahbaaGreatDoorWalkZ5
import Derived.Test.YtoieklacpkahbaaGreatDoorLayS
import Derived.Test.YtoieklacpkahbaaGreatDoorWalkV
namespace Go.Proofs.YtoieklacpkahbaaGreatDoor
open Go.RowKit
theorem hasC_fits {W : Nat} {e : Sc.El} {col tail : Nat} (h : Sc.fits W e col tail = false) : e.com = true ∨ (e.com = false ∧ ¬ col + e.flen + tail ≤ W) := by
  unfold Sc.fits at h
  cases hc : e.com with
  | true => exact .inl rfl
  | false => rw [hc] at h; exact .inr ⟨rfl, by simpa using h⟩
mutual
/-- The second layout lays every element out. -/
theorem elemR_any (W : Nat) (hW : W ≤ 200) : ∀ (e : Sc.El), e.WF → TW e.toks → Sc.wt e.toks ≤ 20000 → ElemR W e
  | .leaf t, hw, hT, hwt => by
    intro ao cap ts B0 w i rest s tail h hn hts hd hs
    have ht := hT t (by simp [Sc.El.toks])
    have h1 := hs.len
    have h2 := hs.tail
    have h3 := hs.col
    have hp : 0 < (Sc.El.leaf t).toks.length := by simp [Sc.El.toks]
    have hRL : RL W (.leaf t) (Sc.colB 0 s) tail = t.text := by simp [RL, Sc.El.lay, Sc.render]
    cases hf : Sc.fits W (.leaf t) (Sc.colB 0 s) tail with
    | true =>
      have := elem_fits W hW (.leaf t) hw ao cap ts B0 w i rest s tail h hn hd (by omega) hwt hf
      rw [Sc.flS_all _ hw, ← RL_fits hf] at this
      exact this
    | false =>
      rw [hRL]
      have hk : t.kind = 1 ∨ t.kind = 5 := hw
      rcases hk with hk | hk
      · refine elem_atom W hW t hk hw ao cap ts B0 w i rest s tail h hn hd (by omega) (by omega) ht.2.2.1 (by omega) ?_
        rcases hasC_fits hf with h5 | ⟨_, h5⟩
        · simp [Sc.El.com, Sc.El.toks, hk] at h5
        · simpa [Sc.El.flen, Sc.El.flat, Sc.render] using h5
      · exact elem_comment W t hw ao cap ts B0 w i rest s tail h hn hd (by omega) ht.2.2.1 hk
  | .pre t e, hw, hT, hwt => by
    intro ao cap ts B0 w i rest s tail h hn hts hd hs
    have ht := hT t (by simp [Sc.El.toks])
    have h1 := hs.len
    have h2 := hs.tail
    have h3 := hs.col
    have hwt' : Sc.wt (Sc.El.pre t e).toks = t.text.length + 1 + Sc.wt e.toks := by rw [Sc.El.toks, Sc.wt]
    have htk : (Sc.El.pre t e).toks.length = e.toks.length + 1 := by simp [Sc.El.toks]
    cases hf : Sc.fits W (.pre t e) (Sc.colB 0 s) tail with
    | true =>
      have := elem_fits W hW (.pre t e) hw ao cap ts B0 w i rest s tail h hn hd (by omega) hwt hf
      rw [Sc.flS_all _ hw, ← RL_fits hf] at this
      exact this
    | false =>
      have hRL : RL W (.pre t e) (Sc.colB 0 s) tail = t.text ++ RL W e (Sc.colB 0 s + t.text.length) tail := by
        unfold RL
        rw [Sc.El.lay, Sc.colB_nil, if_neg (by rw [hf]; simp), Sc.render]
        simp
      have hco : Sc.colB 0 (s ++ t.text) = Sc.colB 0 s + t.text.length := by rw [Sc.colB_app, Sc.colB_no10 _ _ ht.1]
      have hd2 : (ts.drop (i + 1)).map Sc.erase = e.toks ++ rest := by
        rw [Sc.El.toks, List.cons_append] at hd
        obtain ⟨_, _, _, _, h5⟩ := Sc.tok_at hd
        exact h5
      have ih := elemR_any W hW e hw.2.2 (fun u hu => hT u (by simp [Sc.El.toks, hu])) (by omega)
      have HIH : Hid (∀ W1, Owns W1 B0 (.slice ao ts.length cap) ts → Calls Tryz.prog 28 #[.agg #[.slice ao ts.length cap, .int .i64 W], .string ⟨(s ++ t.text).toArray⟩, .int .i64 (i + 1 : Nat), .int .i64 tail] W1 fun e' w' => e' = .returned (.string ⟨(s ++ RL W (.pre t e) (Sc.colB 0 s) tail).toArray⟩) ∧ Below W1.heap.size W1 w') := by
        refine hide (fun W1 h1' => ?_)
        have := ih ao cap ts B0 W1 (i + 1) rest (s ++ t.text) tail h1' hn hts hd2 ⟨by rw [hco]; omega, by rw [List.length_append]; have := ht.2.2.1; omega, by omega⟩
        rw [hco, List.append_assoc, ← hRL] at this
        exact this
      rcases hasC_fits hf with h5 | ⟨h5, h6⟩
      · exact elem_pre W t e hw ao cap ts B0 w i rest s _ tail h hn hd (by omega) hwt ht.2.2.1 h5 HIH
      · exact elem_pre2 W hW t e hw ao cap ts B0 w i rest s _ tail h hn hd (by omega) (by omega) hwt ht.2.2.1 (by omega) h5 h6 HIH
  | .lst o es c, hw, hT, hwt => by
    intro ao cap ts B0 w i rest s tail h hn hts hd hs
    have ht := hT o (by simp [Sc.El.toks])
    have h1 := hs.len
    have h2 := hs.tail
    have h3 := hs.col
    have hp : 0 < (Sc.El.lst o es c).toks.length := by simp [Sc.El.toks]
    cases hf : Sc.fits W (.lst o es c) (Sc.colB 0 s) tail with
    | true =>
      have := elem_fits W hW (.lst o es c) hw ao cap ts B0 w i rest s tail h hn hd (by omega) hwt hf
      rw [Sc.flS_all _ hw, ← RL_fits hf] at this
      exact this
    | false =>
      have hc0 := (hT c (by simp [Sc.El.toks])).2.2.2.1 hw.2.1
      have hRL : RL W (.lst o es c) (Sc.colB 0 s) tail = Sc.brk W o es (Sc.colB 0 s) (Sc.colB 0 s + (Sc.style o es).1) (Sc.style o es).2 tail := by
        unfold RL Sc.brk
        rw [Sc.El.lay, Sc.colB_nil, if_neg (by rw [hf]; simp), Sc.render, Sc.render_app, Sc.render_tl (Sc.layL ..)]
        simp [Sc.render, hc0]
      have hwl : Sc.wt (Sc.toksL es) ≤ 20000 := by
        rw [Sc.El.toks, Sc.wt, Sc.wt_app] at hwt
        omega
      have ih := elemsR_any W hW es hw.2.2 (fun u hu => hT u (by simp [Sc.El.toks, hu])) hwl
      have HIH : Hid (∀ W1, Owns W1 B0 (.slice ao ts.length cap) ts → Calls Tryz.prog 63 #[.agg #[.slice ao ts.length cap, .int .i64 W], .string ⟨s.toArray⟩, .int .i64 i, .int .i64 tail] W1 fun e' w' => e' = .returned (.string ⟨(s ++ RL W (.lst o es c) (Sc.colB 0 s) tail).toArray⟩) ∧ Below W1.heap.size W1 w') := by
        refine hide (fun W1 h1' => ?_)
        rw [hRL]
        exact rbroken_any W hW o c es hw hT ih ao cap ts B0 W1 i rest s tail h1' hn hts hd hs
      rcases hasC_fits hf with h5 | ⟨h5, h6⟩
      · exact elem_lst1 W o es c hw ao cap ts B0 w i rest s _ tail h hn hd (by omega) hwt ht.2.2.1 h5 HIH
      · exact elem_lst2 W hW o es c hw ao cap ts B0 w i rest s _ tail h hn hd (by omega) (by omega) hwt ht.2.2.1 (by omega) h5 h6 HIH
theorem elemsR_any (W : Nat) (hW : W ≤ 200) : ∀ (es : List Sc.El), Sc.WFL es → TW (Sc.toksL es) → Sc.wt (Sc.toksL es) ≤ 20000 → ∀ e ∈ es, ElemR W e
  | [], _, _, _, _, h => absurd h List.not_mem_nil
  | e :: es, hw, hT, hwt, e', h => by
    rw [Sc.toksL, Sc.wt_app] at hwt
    have h1 := elemR_any W hW e hw.1 (fun u hu => hT u (by simp [Sc.toksL, hu])) (by omega)
    have h2 := elemsR_any W hW es hw.2 (fun u hu => hT u (by simp [Sc.toksL, hu])) (by omega)
    rcases List.mem_cons.1 h with rfl | h
    · exact h1
    · exact h2 e' h
end
end Go.Proofs.YtoieklacpkahbaaGreatDoor
