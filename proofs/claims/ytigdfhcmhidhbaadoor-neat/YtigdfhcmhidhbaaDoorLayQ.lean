/- Walks: the program's writer: every element. -/
import Derived.Test.YtigdfhcmhidhbaaDoorLayP
namespace Go.Proofs.YtigdfhcmhidhbaaDoor
open Go.RowKit
/-- A row's cells are kept. -/
theorem Fw.row_cell {N x : Nat} {w w' : World} {n cap : Nat} {Q : List Value → Prop} (hf : Fw N x w w') {g : Nat} (h : RowV (Ne x) w n (.slice (some ⟨g, 0, none⟩) n cap) Q) (_ : Nat) (_ : Ne x g) (j : Nat) : w'.cell? ⟨g, j, none⟩ = w.cell? ⟨g, j, none⟩ := by
  rcases h with ⟨h, _⟩ | ⟨g', cap', cur, h1, h2, h3, _⟩
  · cases h
  · injection h1 with h1 _ _
    injection h1 with h1
    injection h1 with h1 _ _
    subst h1
    exact World.cell?_of_block (hf.keep g _ _ _ h2 h3 (by decide))
theorem SixB.drewN {R : Nat} {a b c d e f : Value} {w : World} (h : SixB R a b c d e f w) (n : Nat) : SixB R a b c d e f (w.drewN n) := h

set_option maxRecDepth 100000 in
set_option maxHeartbeats 4000000 in
theorem elem_pre' (t : Sc.Tok) (e : Sc.El) (hw : (Sc.El.pre t e).WF) (hT : TW (Sc.El.pre t e).toks) (hC : ElemW e) : ElemW (.pre t e) := by
  intro N x W l col tail w p ao n c hW hk hE hs
  cases hf : Sc.fits W (.pre t e) col tail with
  | true => exact elem_fits' _ hw hT N x W l col tail w p ao n c hW hk hE hs hf
  | false =>
    have hq := nofit hf
    obtain ⟨c2, c3, hx⟩ := hk.cells
    have hft := hs.tail
    have hfc := hs.col
    have hle := hs.len
    have hw1 : t.kind = 4 := hw.1
    have ht := hT t (by simp [Sc.El.toks])
    have htl := ht.2.2.1
    have hRL : RL W (.pre t e) col tail = t.text ++ RL W e (col + t.text.length) tail := by
      unfold RL
      rw [Sc.El.lay, Sc.colB_nil, if_neg (by rw [hf]; simp), Sc.render]
      simp
    rw [hRL, Sc.colB_app, Sc.colB_no10 _ _ ht.1]
    have hv : n = 1 ∧ RowV (Ne x) w [e].length (.slice ao 1 c) (ElsAt (Ne x) w [e]) := by
      simp only [ElAt] at hE
      obtain ⟨p', v, hE, hv⟩ := hE
      have hv' : Value.slice ao n c = v := hd_v hE
      subst hv'
      have hn : n = 1 := by
        rcases hv with ⟨_, h, _⟩ | ⟨g, cap, cur, h, _⟩
        · omega
        · injection h
      subst hn
      exact ⟨rfl, hv.one⟩
    obtain ⟨rfl, hv⟩ := hv
    have hwt : Sc.wt (Sc.El.pre t e).toks = t.text.length + 1 + Sc.wt e.toks := by rw [Sc.El.toks, Sc.wt]
    have htk : (Sc.El.pre t e).toks.length = e.toks.length + 1 := by simp [Sc.El.toks]
    rw [hwt] at hfc
    rw [htk] at hle hft
    have hsz : Sz e (l ++ t.text) (col + t.text.length) tail := ⟨by omega, by rw [List.length_append]; omega, by omega⟩
    obtain ⟨g, cap', pp, vo, vn, vc, e1, hne, hg, hcp, hEe, d0, d1, d2, d3, d4, d5⟩ := hv.cells 0 (by simp)
    injection e1 with e1 e2 e3
    subst e1 e3
    have HC := hide (fun w' (hf' : Fw N x w w') (h' : Wk N x W (l ++ t.text) (col + t.text.length) w') => hC N x W (l ++ t.text) (col + t.text.length) tail w' pp vo vn vc hW h' (ElAt.fw hf' e _ hEe) hsz)
    have HV := hide (fun w' (hf' : Fw N x w w') => hv.fw hf' (fun cs h => ElsAt.fw hf' [e] cs h))
    have HP := hide (fun w' (h' : Wk N x W l col w') => wput t.text h' (by omega) (by omega))
    have HK := hide hk
    have k2 : (t.kind == 2) = false := beq_eq_false_iff_ne.2 (by omega)
    have k4 : (t.kind == 4) = true := beq_iff_eq.2 hw1
    rw [show (Sc.El.pre t e).first = t from rfl, ← List.append_assoc]
    have HG : Hid (∀ w', Fw N x w w' → g < w'.heap.size ∧ w'.cell? ⟨g, 0, none⟩ = some (.int .i64 e.first.kind) ∧ w'.cell? ⟨g, 1, none⟩ = some (.string ⟨e.first.text.toArray⟩) ∧ w'.cell? ⟨g, 2, none⟩ = some (.int .i64 pp) ∧ w'.cell? ⟨g, 3, none⟩ = some (.bool e.first.behind) ∧ w'.cell? ⟨g, 4, none⟩ = some (.slice vo vn vc) ∧ w'.cell? ⟨g, 5, none⟩ = some (.int .i64 e.fl)) := by
      refine hide (fun w' hf' => ?_)
      have hk := fun j => Fw.row_cell hf' (HV.out w (Fw.refl _ _ _)) g hne j
      refine ⟨Nat.lt_of_lt_of_le hg hf'.fr.size, (hk 0).trans d0, (hk 1).trans d1, (hk 2).trans d2, (hk 3).trans d3, (hk 4).trans d4, (hk 5).trans d5⟩
    clear hRL hT ht hw1 hv hC hwt htk d0 d1 d2 d3 d4 d5 hEe hsz e2 HV hg hcp
    rcases hq with hq | ⟨hq, hq2⟩
    · rw [hq]
      clear hk hE hs hq hf
      go_enter Tryd.func44, Tryd.ntmps44
      go_wp2
      go_quiet (fail)
      go_wp2_with (first
        | (go_at_call 60; refine (is_any _ _ _ _ _ _ _ _).mono ?_; rintro r w2 ⟨he, rfl⟩; (first | rw [k2] at he | rw [k4] at he); subst he)
        | fail)
      refine (HP.out _ ((((HK.out.new _).drewN _).new _).new _)).mono ?_
      rintro r w3 ⟨rfl, hk3, hf3⟩
      have HF3 := hide ((((((Fw.refl N x w).alloc HK.out.n _).drewN _).alloc ((HK.out.new _).drewN _).n _).alloc (((HK.out.new _).drewN _).new _).n _).trans hf3)
      have HK3 := hide hk3
      have HB3 := hide (((((SixB.new w _ _ _ _ _ _).drewN _).alloc _).alloc _).fw hf3 (by omega))
      obtain ⟨hl1, z0, z1, z2, z3, z4, z5, -, -, -, -, -, -⟩ := HB3.out.at
      obtain ⟨hg3, y0, y1, y2, y3, y4, y5⟩ := HG.out _ HF3.out
      clear hk3 hf3
      go_wp2_with (go_at_call 44; refine (HC.out _ HF3.out HK3.out).mono ?_; rintro r w4 ⟨rfl, hk4, hf4⟩)
      go_end0
      exact ⟨rfl, hk4, HF3.out.trans hf4⟩
    · have hfe := (hfl_of _ hw l col tail hs).2
      rw [hq]
      clear hk hE hs hq hf
      generalize (Sc.El.pre t e).flen = fe at *
      have hm1 : ((fe : Int) == -1) = false := beq_eq_false_iff_ne.2 (by omega)
      have HQ := hide (wrap_small ((col : Int) + fe) (by omega) (by omega))
      have HQ2 := hide (wrap_small ((col : Int) + fe + tail) (by omega) (by omega))
      have HQ3 := hide (show ((fe : Int) != -1 && decide ((col : Int) + fe + tail ≤ W)) = false by rw [decide_eq_false hq2, Bool.and_false])
      go_enter Tryd.func44, Tryd.ntmps44
      go_wp2
      go_quiet (fail)
      simp only [HQ.out, HQ2.out, HQ3.out]
      go_wp2_with (first
        | (go_at_call 60; refine (is_any _ _ _ _ _ _ _ _).mono ?_; rintro r w2 ⟨he, rfl⟩; (first | rw [k2] at he | rw [k4] at he); subst he)
        | fail)
      refine (HP.out _ ((((HK.out.new _).drewN _).new _).new _)).mono ?_
      rintro r w3 ⟨rfl, hk3, hf3⟩
      have HF3 := hide ((((((Fw.refl N x w).alloc HK.out.n _).drewN _).alloc ((HK.out.new _).drewN _).n _).alloc (((HK.out.new _).drewN _).new _).n _).trans hf3)
      have HK3 := hide hk3
      have HB3 := hide (((((SixB.new w _ _ _ _ _ _).drewN _).alloc _).alloc _).fw hf3 (by omega))
      obtain ⟨hl1, z0, z1, z2, z3, z4, z5, -, -, -, -, -, -⟩ := HB3.out.at
      obtain ⟨hg3, y0, y1, y2, y3, y4, y5⟩ := HG.out _ HF3.out
      clear hk3 hf3
      go_wp2_with (go_at_call 44; refine (HC.out _ HF3.out HK3.out).mono ?_; rintro r w4 ⟨rfl, hk4, hf4⟩)
      go_end0
      exact ⟨rfl, hk4, HF3.out.trans hf4⟩

mutual
/-- The program lays every element out. -/
theorem elemW_any : ∀ (e : Sc.El), e.WF → TW e.toks → ElemW e
  | .leaf t, hw, hT => elem_leaf' t hw hT
  | .pre t e, hw, hT => elem_pre' t e hw hT (elemW_any e hw.2.2 (fun u hu => hT u (by simp [Sc.El.toks, hu])))
  | .lst o es c, hw, hT => elem_lst' o c es hw hT (elemsW_any es hw.2.2 (fun u hu => hT u (by simp [Sc.El.toks, hu])))
theorem elemsW_any : ∀ (es : List Sc.El), Sc.WFL es → TW (Sc.toksL es) → ∀ e ∈ es, ElemW e
  | [], _, _, _, h => absurd h List.not_mem_nil
  | e :: es, hw, hT, e', h => by
    have h1 := elemW_any e hw.1 (fun u hu => hT u (by simp [Sc.toksL, hu]))
    have h2 := elemsW_any es hw.2 (fun u hu => hT u (by simp [Sc.toksL, hu]))
    rcases List.mem_cons.1 h with rfl | h
    · exact h1
    · exact h2 e' h
end
end Go.Proofs.YtigdfhcmhidhbaaDoor
