/- Walks: the program's writer: every element. -/
/- Walks: the program's Format. -/
/- Walks: the program's Format. -/
import Derived.Test.YtoieklacpkahbaaDoorLayP
import Derived.Test.YtoieklacpkahbaaDoorPlainZ
import Derived.Test.YtoieklacpkahbaaDoorWalkH
namespace Go.Proofs.YtoieklacpkahbaaDoor
open Go.RowKit
/-- A row's cells are kept. -/
theorem Fw.row_cell {N x : Nat} {w w' : World} {n cap : Nat} {Q : List Value → Prop} (hf : Fw N x w w') {g : Nat} (h : RowV (Ne x) w n (.slice (some ⟨g, 0, none⟩) n cap) Q) (_ : Nat) (_ : Ne x g) (j : Nat) : w'.cell? ⟨g, j, none⟩ = w.cell? ⟨g, j, none⟩ := by
  rcases h with ⟨h, _⟩ | ⟨g', cap', cur, h1, h2, h3, _⟩
  · cases h
  · injection h1 with h1 _ _
    injection h1 with h1
    injection h1 with h1 _ _
    subst h1
    exact World.cell?_of_block (hf.keep g _ _ _ h2 h3 (by decide))
theorem SixB.drewN {R : Nat} {a b c d e f : Value} {w : World} (h : SixB R a b c d e f w) (n : Nat) : SixB R a b c d e f (w.drewN n) := h

set_option maxRecDepth 100000 in
set_option maxHeartbeats 4000000 in
theorem elem_pre' (t : Sc.Tok) (e : Sc.El) (hw : (Sc.El.pre t e).WF) (hT : TW (Sc.El.pre t e).toks) (hC : ElemW e) : ElemW (.pre t e) := by
  intro N x W l col tail w p ao n c hW hk hE hs
  cases hf : Sc.fits W (.pre t e) col tail with
  | true => exact elem_fits' _ hw hT N x W l col tail w p ao n c hW hk hE hs hf
  | false =>
    have hq := nofit hf
    obtain ⟨c2, c3, hx⟩ := hk.cells
    have hft := hs.tail
    have hfc := hs.col
    have hle := hs.len
    have hw1 : t.kind = 4 := hw.1
    have ht := hT t (by simp [Sc.El.toks])
    have htl := ht.2.2.1
    have hRL : RL W (.pre t e) col tail = t.text ++ RL W e (col + t.text.length) tail := by
      unfold RL
      rw [Sc.El.lay, Sc.colB_nil, if_neg (by rw [hf]; simp), Sc.render]
      simp
    rw [hRL, Sc.colB_app, Sc.colB_no10 _ _ ht.1]
    have hv : n = 1 ∧ RowV (Ne x) w [e].length (.slice ao 1 c) (ElsAt (Ne x) w [e]) := by
      simp only [ElAt] at hE
      obtain ⟨p', v, hE, hv⟩ := hE
      have hv' : Value.slice ao n c = v := hd_v hE
      subst hv'
      have hn : n = 1 := by
        rcases hv with ⟨_, h, _⟩ | ⟨g, cap, cur, h, _⟩
        · omega
        · injection h
      subst hn
      exact ⟨rfl, hv.one⟩
    obtain ⟨rfl, hv⟩ := hv
    have hwt : Sc.wt (Sc.El.pre t e).toks = t.text.length + 1 + Sc.wt e.toks := by rw [Sc.El.toks, Sc.wt]
    have htk : (Sc.El.pre t e).toks.length = e.toks.length + 1 := by simp [Sc.El.toks]
    rw [hwt] at hfc
    rw [htk] at hle hft
    have hsz : Sz e (l ++ t.text) (col + t.text.length) tail := ⟨by omega, by rw [List.length_append]; omega, by omega⟩
    obtain ⟨g, cap', pp, vo, vn, vc, e1, hne, hg, hcp, hEe, d0, d1, d2, d3, d4, d5⟩ := hv.cells 0 (by simp)
    injection e1 with e1 e2 e3
    subst e1 e3
    have HC := hide (fun w' (hf' : Fw N x w w') (h' : Wk N x W (l ++ t.text) (col + t.text.length) w') => hC N x W (l ++ t.text) (col + t.text.length) tail w' pp vo vn vc hW h' (ElAt.fw hf' e _ hEe) hsz)
    have HV := hide (fun w' (hf' : Fw N x w w') => hv.fw hf' (fun cs h => ElsAt.fw hf' [e] cs h))
    have HP := hide (fun w' (h' : Wk N x W l col w') => wput t.text h' (by omega) (by omega))
    have HK := hide hk
    have k2 : (t.kind == 2) = false := beq_eq_false_iff_ne.2 (by omega)
    have k4 : (t.kind == 4) = true := beq_iff_eq.2 hw1
    rw [show (Sc.El.pre t e).first = t from rfl, ← List.append_assoc]
    have HG : Hid (∀ w', Fw N x w w' → g < w'.heap.size ∧ w'.cell? ⟨g, 0, none⟩ = some (.int .i64 e.first.kind) ∧ w'.cell? ⟨g, 1, none⟩ = some (.string ⟨e.first.text.toArray⟩) ∧ w'.cell? ⟨g, 2, none⟩ = some (.int .i64 pp) ∧ w'.cell? ⟨g, 3, none⟩ = some (.bool e.first.behind) ∧ w'.cell? ⟨g, 4, none⟩ = some (.slice vo vn vc) ∧ w'.cell? ⟨g, 5, none⟩ = some (.int .i64 e.fl)) := by
      refine hide (fun w' hf' => ?_)
      have hk := fun j => Fw.row_cell hf' (HV.out w (Fw.refl _ _ _)) g hne j
      refine ⟨Nat.lt_of_lt_of_le hg hf'.fr.size, (hk 0).trans d0, (hk 1).trans d1, (hk 2).trans d2, (hk 3).trans d3, (hk 4).trans d4, (hk 5).trans d5⟩
    clear hRL hT ht hw1 hv hC hwt htk d0 d1 d2 d3 d4 d5 hEe hsz e2 HV hg hcp
    rcases hq with hq | ⟨hq, hq2⟩
    · rw [hq]
      clear hk hE hs hq hf
      go_enter Tryd.func44, Tryd.ntmps44
      go_wp2
      go_quiet (fail)
      go_wp2_with (first
        | (go_at_call 60; refine (is_any _ _ _ _ _ _ _ _).mono ?_; rintro r w2 ⟨he, rfl⟩; (first | rw [k2] at he | rw [k4] at he); subst he)
        | fail)
      refine (HP.out _ ((((HK.out.new _).drewN _).new _).new _)).mono ?_
      rintro r w3 ⟨rfl, hk3, hf3⟩
      have HF3 := hide ((((((Fw.refl N x w).alloc HK.out.n _).drewN _).alloc ((HK.out.new _).drewN _).n _).alloc (((HK.out.new _).drewN _).new _).n _).trans hf3)
      have HK3 := hide hk3
      have HB3 := hide (((((SixB.new w _ _ _ _ _ _).drewN _).alloc _).alloc _).fw hf3 (by omega))
      obtain ⟨hl1, z0, z1, z2, z3, z4, z5, -, -, -, -, -, -⟩ := HB3.out.at
      obtain ⟨hg3, y0, y1, y2, y3, y4, y5⟩ := HG.out _ HF3.out
      clear hk3 hf3
      go_wp2_with (go_at_call 44; refine (HC.out _ HF3.out HK3.out).mono ?_; rintro r w4 ⟨rfl, hk4, hf4⟩)
      go_end0
      exact ⟨rfl, hk4, HF3.out.trans hf4⟩
    · have hfe := (hfl_of _ hw l col tail hs).2
      rw [hq]
      clear hk hE hs hq hf
      generalize (Sc.El.pre t e).flen = fe at *
      have hm1 : ((fe : Int) == -1) = false := beq_eq_false_iff_ne.2 (by omega)
      have HQ := hide (wrap_small ((col : Int) + fe) (by omega) (by omega))
      have HQ2 := hide (wrap_small ((col : Int) + fe + tail) (by omega) (by omega))
      have HQ3 := hide (show ((fe : Int) != -1 && decide ((col : Int) + fe + tail ≤ W)) = false by rw [decide_eq_false hq2, Bool.and_false])
      go_enter Tryd.func44, Tryd.ntmps44
      go_wp2
      go_quiet (fail)
      simp only [HQ.out, HQ2.out, HQ3.out]
      go_wp2_with (first
        | (go_at_call 60; refine (is_any _ _ _ _ _ _ _ _).mono ?_; rintro r w2 ⟨he, rfl⟩; (first | rw [k2] at he | rw [k4] at he); subst he)
        | fail)
      refine (HP.out _ ((((HK.out.new _).drewN _).new _).new _)).mono ?_
      rintro r w3 ⟨rfl, hk3, hf3⟩
      have HF3 := hide ((((((Fw.refl N x w).alloc HK.out.n _).drewN _).alloc ((HK.out.new _).drewN _).n _).alloc (((HK.out.new _).drewN _).new _).n _).trans hf3)
      have HK3 := hide hk3
      have HB3 := hide (((((SixB.new w _ _ _ _ _ _).drewN _).alloc _).alloc _).fw hf3 (by omega))
      obtain ⟨hl1, z0, z1, z2, z3, z4, z5, -, -, -, -, -, -⟩ := HB3.out.at
      obtain ⟨hg3, y0, y1, y2, y3, y4, y5⟩ := HG.out _ HF3.out
      clear hk3 hf3
      go_wp2_with (go_at_call 44; refine (HC.out _ HF3.out HK3.out).mono ?_; rintro r w4 ⟨rfl, hk4, hf4⟩)
      go_end0
      exact ⟨rfl, hk4, HF3.out.trans hf4⟩

mutual
/-- The program lays every element out. -/
theorem elemW_any : ∀ (e : Sc.El), e.WF → TW e.toks → ElemW e
  | .leaf t, hw, hT => elem_leaf' t hw hT
  | .pre t e, hw, hT => elem_pre' t e hw hT (elemW_any e hw.2.2 (fun u hu => hT u (by simp [Sc.El.toks, hu])))
  | .lst o es c, hw, hT => elem_lst' o c es hw hT (elemsW_any es hw.2.2 (fun u hu => hT u (by simp [Sc.El.toks, hu])))
theorem elemsW_any : ∀ (es : List Sc.El), Sc.WFL es → TW (Sc.toksL es) → ∀ e ∈ es, ElemW e
  | [], _, _, _, h => absurd h List.not_mem_nil
  | e :: es, hw, hT, e', h => by
    have h1 := elemW_any e hw.1 (fun u hu => hT u (by simp [Sc.toksL, hu]))
    have h2 := elemsW_any es hw.2 (fun u hu => hT u (by simp [Sc.toksL, hu]))
    rcases List.mem_cons.1 h with rfl | h
    · exact h1
    · exact h2 e' h
end
end Go.Proofs.YtoieklacpkahbaaDoor
namespace Go.Proofs.YtoieklacpkahbaaDoor
open Go.RowKit
namespace Sc
theorem cov_wt {l : List UInt8} {b : Nat} : ∀ (ts : List Tok) (a : Nat), Cov l ts a b → a ≤ l.length → wt ts + 2 * a ≤ 2 * l.length ∧ (∀ t ∈ ts, t.text.length ≤ l.length)
  | [], a, _, ha => by simp [wt]; omega
  | t :: ts, a, h, _ => by
    obtain ⟨p, h1, h2, h3, h4, _, h6⟩ := h
    have ih := cov_wt ts _ h6 h4
    have hab : a ≤ p := h2.1
    rw [wt]
    refine ⟨by omega, fun u hu => ?_⟩
    rcases List.mem_cons.1 hu with rfl | hu
    · omega
    · exact ih.2 u hu
theorem wt_erase : ∀ ts : List Tok, wt (ts.map erase) = wt ts
  | [] => rfl
  | t :: ts => by rw [List.map_cons, wt, wt, wt_erase ts]; rfl
theorem wt_len : ∀ ts : List Tok, ts.length ≤ wt ts
  | [] => Nat.le_refl _
  | t :: ts => by have := wt_len ts; rw [wt, List.length_cons]; omega
/-- What a text that is read has for tokens. -/
theorem scan_toks {l : List UInt8} {ts : List Tok} {pl : Int} (h : scanRes l = (ts, 0, pl)) : wt ts ≤ 8192 ∧ ts.length ≤ 4096 ∧ ∀ t ∈ ts, No10 t.text ∧ 0 < t.text.length ∧ t.text.length ≤ 4096 ∧ (t.kind = 3 → t.text = [41]) ∧ (t.kind ≠ 5 → t.behind = false) := by
  obtain ⟨h1, _, h3, _, _⟩ := scan_ok h
  have hg := scan_good h
  have e1 : (toksRes l).1 = ts := by rw [h3]
  have e2 : (toksRes l).2.1 = 0 := by rw [h3]
  have hc := toksRes_cov l e2
  rw [e1] at hc
  have hw := cov_wt ts 0 hc (by omega)
  have hl : 2 * ts.length ≤ wt ts := by
    have : ∀ us : List Tok, (∀ t ∈ us, 0 < t.text.length) → 2 * us.length ≤ wt us := by
      intro us
      induction us with
      | nil => intro _; simp [wt]
      | cons u us ih =>
        intro hu
        have := ih (fun t ht => hu t (List.mem_cons_of_mem _ ht))
        have := hu u (List.mem_cons_self ..)
        rw [wt, List.length_cons]; omega
    exact this ts (fun t ht => (hg t ht).2.1.1)
  refine ⟨by omega, by omega, fun t ht => ?_⟩
  have := hg t ht
  exact ⟨this.1.no10, this.2.1.1, by have := hw.2 t ht; omega, this.1.close, this.1.beh⟩
/-- Format, of a text and a width. -/
noncomputable def fmtD (l : List UInt8) (W : Int) : List UInt8 × Int × Int := if W < 1 ∨ 200 < W then ([], 10, 0) else fmtRes l W.toNat
end Sc

set_option maxHeartbeats 1000000 in
theorem readEls_any (es : List Sc.El) (hw : Sc.WFL es) (hT : TOk (Sc.toksL es)) (ts : List Sc.Tok) (htk : ts.map Sc.erase = Sc.toksL es) (g cap B0 : Nat) (w : World) (h : Owns w B0 (.slice (some ⟨g, 0, none⟩) ts.length cap) ts) (hn : ts.length ≤ 4096) :
    Calls Tryd.prog 31 #[.slice (some ⟨g, 0, none⟩) ts.length cap] w fun r w' => ∃ v, r = .returned v ∧ RowV (fun k => w.heap.size ≤ k) w' es.length v (ElsAt (fun k => w.heap.size ≤ k) w' es) ∧ Below w.heap.size w w' := by
  have hgl : g < w.heap.size := by
    rcases h.2 with ⟨hn, _⟩ | ⟨g', cap', cur, e1, hB, hgg, _⟩
    · cases hn
    · injection e1 with e1; injection e1 with e1; injection e1 with e1 _ _; subst e1; exact (Array.getElem?_eq_some_iff.1 hgg).1
  have HR := hide (elements_any es (reads_any es hw hT) hw w.heap.size g 0 ts cap B0 (w.alloc (.cells #[.slice (some ⟨g, 0, none⟩) ts.length cap] 90)) [] (h.below ((Below.refl _ _).alloc (Nat.le_refl _) _)) ⟨_, _, heap_alloc_new w _, fun _ => ⟨by simp, by simp⟩⟩ (by omega) hn (by simpa using htk) (fun c r h => by cases h))
  clear h hT hw htk
  go_enter Tryd.func31, Tryd.ntmps31
  go_wp2_with (go_at_call 46; refine HR.out.mono ?_; rintro e w1 ⟨v, rfl, hv, hr1, hf1⟩; obtain ⟨va, vc, rfl, -⟩ := hv.shape)
  go_ret
  refine ⟨_, rfl, hv.mono (fun k hk _ => ⟨by simp at hk; omega, rfl⟩) (fun cs hcs => ElsAt.mono (fun k hk _ => ⟨by simp at hk; omega, rfl⟩) _ _ hcs), ?_⟩
  exact ((Below.refl _ w).alloc (Nat.le_refl _) _).trans (hf1.below (Nat.le_refl _) (by simp))
end Go.Proofs.YtoieklacpkahbaaDoor
namespace Go.Proofs.YtoieklacpkahbaaDoor
open Go.RowKit
/-- What Format answers. -/
def fmtV (R : List UInt8 × Int × Int) : Value := .tuple #[.string ⟨R.1.toArray⟩, .int .i64 R.2.1, .int .i64 R.2.2]

theorem toks_of (ts : List Sc.Tok) (l : List UInt8) (pl : Int) (h : Sc.scanRes l = (ts, 0, pl)) : TOk (ts.map Sc.erase) ∧ TW (ts.map Sc.erase) := by
  obtain ⟨h1, h2, h3⟩ := Sc.scan_toks h
  refine ⟨⟨fun t ht => ?_, by rw [Sc.wt_erase]; omega⟩, fun t ht => ?_⟩
  · obtain ⟨u, hu, rfl⟩ := List.mem_map.1 ht
    have := h3 u hu
    exact ⟨this.2.2.1, fun hk => by rw [show (Sc.erase u).text = u.text from rfl, this.2.2.2.1 hk]; rfl⟩
  · obtain ⟨u, hu, rfl⟩ := List.mem_map.1 ht
    exact h3 u hu

set_option maxRecDepth 100000 in
set_option maxHeartbeats 4000000 in
theorem format_any (s : ByteArray) (W : Int) (w : World) (hs : s.size ≤ maxLen) (m : Int) (hm : w.cell? ⟨0, 0, none⟩ = some (.int .i64 m)) (R : List UInt8 × Int × Int) (HR : Hid (Sc.fmtD s.data.toList W = R)) :
    Calls Tryd.prog 18 #[.string s, .int .i64 W] w fun e w' => e = .returned (fmtV R) ∧ Below w.heap.size w w' := by
  by_cases hW : W < 1 ∨ 200 < W
  · have HX : Hid (R = ([], 10, 0)) := by rw [← HR.out]; unfold Sc.fmtD; rw [if_pos hW]; exact hide rfl
    clear HR
    rcases hW with hW | hW
    · go_enter Tryd.func18, Tryd.ntmps18
      go_wp2
      go_ret3
      exact ⟨by rw [HX.out]; rfl, Below.refl _ _⟩
    · have hW' : ¬ W < 1 := by omega
      go_enter Tryd.func18, Tryd.ntmps18
      go_wp2
      go_ret3
      exact ⟨by rw [HX.out]; rfl, Below.refl _ _⟩
  · have hW1 : 1 ≤ W := by omega
    have hW2 : W ≤ 200 := by omega
    have hR2 : Sc.fmtRes s.data.toList W.toNat = R := by rw [← HR.out]; unfold Sc.fmtD; rw [if_neg hW]
    unfold Sc.fmtRes at hR2
    have HSC := hide (scan_any s w hs m hm (Sc.scanRes s.data.toList) (hide rfl))
    obtain ⟨ts, er, pl, hsc⟩ : ∃ ts er pl, Sc.scanRes s.data.toList = (ts, er, pl) := ⟨_, _, _, rfl⟩
    rw [hsc] at HSC hR2
    simp only at HSC hR2
    by_cases her : er = 0
    · subst her
      simp only [if_true] at hR2
      have hps := Sc.parse_spec (Sc.els_of_scan hsc)
      obtain ⟨hto, htw⟩ := toks_of ts _ pl hsc
      obtain ⟨hwt, htl, -⟩ := Sc.scan_toks hsc
      unfold Sc.fmtT at hR2
      obtain ⟨es, hes⟩ : ∃ es, es = Sc.parse (ts.map Sc.erase) := ⟨_, rfl⟩
      rw [← hes] at hps hR2
      rw [← hps.1] at hto htw
      have hwe : Sc.wt (Sc.toksL es) ≤ 8192 := by rw [hps.1, Sc.wt_erase]; exact hwt
      have hle : (Sc.toksL es).length ≤ 4096 := by rw [hps.1, List.length_map]; exact htl
      obtain ⟨Wn, rfl⟩ : ∃ Wn : Nat, W = Wn := ⟨W.toNat, by omega⟩
      have HRE := hide (fun g cap B0 w' h' => readEls_any es hps.2 hto ts hps.1.symm g cap B0 w' h' htl)
      have HRW := hide (fun N x w' ao cap hk hv => row_any es (elemsW_any es hps.2 htw) hps.2 htw N x Wn [] 0 w' ao cap 1 false 0 0 0 rfl (by omega) hk hv (Nat.le_refl _) (fun _ _ _ => by omega) (by omega) (by omega) (by simp; omega) (by omega))
      by_cases h0 : ts = []
      · subst h0
        have hen : es = [] := Sc.toksL_nil hps.1
        subst hen
        have HX := hide hR2
        clear hR2 hps hto htw HRE HRW hes
        go_enter Tryd.func18, Tryd.ntmps18
        go_wp2_with (go_at_call 11; refine HSC.out.mono ?_; rintro e w1 ⟨v, rfl, ho, hb, -⟩; obtain ⟨va, vc, rfl⟩ := ho.shape)
        go_ret3
        exact ⟨by rw [← HX.out]; rfl, hb⟩
      · have hne : es ≠ [] := fun h => h0 (by
          rw [h] at hps
          exact List.map_eq_nil_iff.1 hps.1.symm)
        have hpos : 0 < ts.length := List.length_pos_iff.2 h0
        have hlb : ((ts.length : Int) == 0) = false := beq_eq_false_iff_ne.2 (by omega)
        obtain ⟨T, hTT⟩ : ∃ T, T = Sc.render (Sc.layL Wn es 0 0 0 false 0) [] := ⟨_, rfl⟩
        have hRT : (T ++ [10], (0 : Int), (0 : Int)) = R := by
          rw [← hR2, hTT]
          unfold Sc.layAll
          have hie : es.isEmpty = false := by cases es with
            | nil => exact absurd rfl hne
            | cons _ _ => rfl
          rw [hie, show ((Wn : Int)).toNat = Wn by omega, Sc.render_tl _ [10]]
          rfl
        have hTl : T.length ≤ 900000000 := by
          have := row_len Wn es htw 0 0 0 false (fun _ _ _ => by omega) (by omega)
          rw [← hTT] at this
          omega
        rw [← hTT] at HRW
        simp only [List.nil_append] at HRW
        have HX := hide hRT
        have HNL := hide (fun N x w' (c0 : Nat) (h' : Wk N x Wn T c0 w') => wnl 0 h' (by omega) (by omega))
        clear hR2 hps hto htw hes hRT hTT hne h0
        go_enter Tryd.func18, Tryd.ntmps18
        go_wp2_with (first
          | (go_at_call 11; refine HSC.out.mono ?_; rintro e w1 ⟨v, rfl, ho, hb, -⟩; obtain ⟨va, vc, rfl⟩ := ho.shape; obtain ⟨g, hg1, -, hg2, hg3, -⟩ := ho.at 0 hpos; subst hg1; have HO := hide ho; have HB := hide hb; clear ho hb)
          | fail)
        refine (HRE.out g vc w.heap.size _ (HO.out.below ((Below.refl _ _).alloc (Nat.le_refl _) _))).mono ?_
        rintro e w2 ⟨v, rfl, hv, hb2⟩
        obtain ⟨va, cap2, rfl, -⟩ := hv.shape
        have hs2 := hb2.size
        have hsa : (w1.alloc (.cells #[.pointer none, .slice none 0 0, .int .i64 Wn, .int .i64 0] 70)).heap.size = w1.heap.size + 1 := by simp
        have hx2 : w2.heap[w1.heap.size]? = some (.cells #[.pointer none, .slice none 0 0, .int .i64 Wn, .int .i64 0] 70 (0, 0)) := (hb2.block _ (by omega)).trans (heap_alloc_new w1 _)
        have HK2 : Hid (Wk w2.heap.size w1.heap.size Wn [] 0 w2) := hide ⟨Or.inl ⟨.slice none 0 0, hx2, World.ownsRow_nil _ _ _ _, by simp [Value.ownBlock]⟩, Nat.le_refl _, by omega⟩
        have HV2 := hide (hv.mono (A' := Ne w1.heap.size) (w' := w2) (Q' := ElsAt (Ne w1.heap.size) w2 es) (fun k hk _ => ⟨by unfold Ne; omega, rfl⟩) (fun cs hcs => ElsAt.mono (fun k hk _ => ⟨by unfold Ne; omega, rfl⟩) _ _ hcs))
        have hb1 := HB.out.size
        have HB2 := hide (HB.out.trans ((((Below.refl _ w1).alloc (Nat.le_refl _) _).trans (hb2.mono (by omega))).mono hb1))
        have hx3 : w1.heap.size < w2.heap.size := by omega
        clear hv hb2 hx2 HRE HO hsa
        go_wp2_with (first
          | (go_at_call 30; refine (HRW.out w2.heap.size w1.heap.size w2 va cap2 HK2.out HV2.out).mono ?_; rintro e w3 ⟨rfl, hk3, hf3⟩; have HK3 := hide hk3; have HF3 := hide hf3; clear hk3 hf3)
          | (go_at_call 32; refine (HNL.out _ _ _ _ HK3.out).mono ?_; rintro e w4 ⟨rfl, hk4, hf4⟩; have HK4 := hide hk4; have HF4 := hide (HF3.out.trans hf4); clear hk4 hf4)
          | (go_at_call 33; refine (string_any _ _ _ _ _ _ HK4.out.wr (by simp [Sc.nl])).mono ?_; rintro e w5 ⟨rfl, hb5⟩))
        go_ret3
        refine ⟨by rw [← HX.out]; rfl, ?_⟩
        exact HB2.out.trans ((HF4.out.fr.below hb1 (by omega)).trans (hb5.mono (by omega)))
    · have HX : Hid (R = ([], er, pl)) := by rw [← hR2, if_neg her]; exact hide rfl
      have hbe : (er == 0) = false := beq_eq_false_iff_ne.2 her
      clear hR2 her
      go_enter Tryd.func18, Tryd.ntmps18
      go_wp2_with (go_at_call 11; refine HSC.out.mono ?_; rintro e w1 ⟨v, rfl, ho, hb, -⟩; obtain ⟨va, vc, rfl⟩ := ho.shape)
      go_ret3
      exact ⟨by rw [HX.out]; rfl, hb⟩
end Go.Proofs.YtoieklacpkahbaaDoor
