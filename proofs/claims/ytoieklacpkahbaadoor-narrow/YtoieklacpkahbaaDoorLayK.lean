/- Walks: the program's writer: rows of elements. -/
import Derived.Test.YtoieklacpkahbaaDoorLayJ
import Derived.Test.YtoieklacpkahbaaDoorPlainM
import Derived.Test.YtoieklacpkahbaaDoorPlainP
namespace Go.Proofs.YtoieklacpkahbaaDoor
open Go.RowKit
/-- What tokens that are laid out are. -/
def TW (T : List Sc.Tok) : Prop := ∀ t ∈ T, Sc.No10 t.text ∧ 0 < t.text.length ∧ t.text.length ≤ 4096 ∧ (t.kind = 3 → t.text = [41]) ∧ (t.kind ≠ 5 → t.behind = false)
theorem TW.left {a b : List Sc.Tok} (h : TW (a ++ b)) : TW a := fun t ht => h t (List.mem_append_left _ ht)
theorem TW.right {a b : List Sc.Tok} (h : TW (a ++ b)) : TW b := fun t ht => h t (List.mem_append_right _ ht)
theorem TW.cons {a : Sc.Tok} {b : List Sc.Tok} (h : TW (a :: b)) : TW b := fun t ht => h t (List.mem_cons_of_mem _ ht)
theorem TW.mem : ∀ {es : List Sc.El} {e : Sc.El}, e ∈ es → TW (Sc.toksL es) → TW e.toks
  | [], _, h, _ => by simp at h
  | e' :: es, e, h, k => by
    rw [Sc.toksL] at k
    rcases List.mem_cons.1 h with rfl | h
    · exact k.left
    · exact TW.mem h k.right
theorem TW.first {e : Sc.El} (h : TW e.toks) : Sc.No10 e.first.text ∧ 0 < e.first.text.length ∧ e.first.text.length ≤ 4096 ∧ (e.first.kind = 3 → e.first.text = [41]) ∧ (e.first.kind ≠ 5 → e.first.behind = false) := h _ e.first_mem
theorem isB_behind {e : Sc.El} (hw : e.WF) (h : TW e.toks) : e.isB = e.first.behind := by
  rw [Sc.El.isB_first_eq hw]
  by_cases h5 : e.first.kind = 5
  · simp [h5]
  · rw [h.first.2.2.2.2 h5, Bool.and_false]

def RL (W : Nat) (e : Sc.El) (col tail : Nat) : List UInt8 := Sc.render (e.lay W col [] tail) []
structure Sz (e : Sc.El) (l : List UInt8) (col tail : Nat) : Prop where
  col : col + 2 * Sc.wt e.toks ≤ 100001
  len : l.length + 300000 * e.toks.length ≤ 10000200000
  tail : tail + e.toks.length ≤ 1000000
/-- What the writer does at an element. -/
def ElemW (e : Sc.El) : Prop := ∀ (N x W : Nat) (l : List UInt8) (col tail : Nat) (w : World) (p : Int) (ao : Option Addr) (n c : Nat), W ≤ 200 → Wk N x W l col w → ElAt (Ne x) w e (hd e.first p (.slice ao n c) e.fl) → Sz e l col tail →
  Calls Tryd.prog 44 #[.pointer (some ⟨x, 0, none⟩), .agg #[.int .i64 e.first.kind, .string ⟨e.first.text.toArray⟩, .int .i64 p, .bool e.first.behind, .slice ao n c, .int .i64 e.fl], .int .i64 tail] w fun r w' => r = .returned (.tuple #[]) ∧ Wk N x W (l ++ RL W e col tail) (Sc.colB col (RL W e col tail)) w' ∧ Fw N x w w'

theorem tail_row (es : List Sc.El) (A : Nat → Prop) (w : World) (g cap : Nat) (h : RowV A w es.length (.slice (some ⟨g, 0, none⟩) es.length cap) (ElsAt A w es)) (k : Nat) (hk : k < es.length) (last : Nat) (hw : Sc.WFL es) (hT : TW (Sc.toksL es)) :
    Calls Tryd.prog 45 #[.slice (some ⟨g, k * 6, none⟩) (es.length - k) (cap - k), .int .i64 last] w fun r w' => r = .returned (.int .i64 (Sc.tailOf (es.drop (k + 1)) last : Nat)) ∧ w' = w := by
  by_cases hk1 : k + 1 < es.length
  · obtain ⟨g', cap', pp, vo, vn, vc, e1, -, -, -, -, -, c1, -, c3, -, -⟩ := h.cells (k + 1) hk1
    injection e1 with e1 _ _
    injection e1 with e1
    injection e1 with e1 _ _
    subst e1
    have he : es[k + 1] ∈ es := List.getElem_mem hk1
    have hwe := WFL_mem he hw
    have hTe := TW.mem he hT
    rw [show (k + 1) * 6 = k * 6 + 6 by omega] at c1 c3
    refine (tailOf_more g (k * 6) (es.length - k) (cap - k) last w (by omega) _ _ c1 c3 (by rw [wbsize]; exact hTe.first.2.2.1)).mono ?_
    rintro r w' ⟨rfl, rfl⟩
    refine ⟨?_, rfl⟩
    rw [List.drop_eq_getElem_cons hk1, Sc.tailOf, isB_behind hwe hTe, wbsize]
    congr 2
    split
    · push_cast; omega
    · rfl
  · have e1 : es.length - k = 1 := by omega
    rw [e1, List.drop_eq_nil_of_le (by omega)]
    exact tailOf_one _ _ _ _

theorem row_eq (W : Nat) (es : List Sc.El) (k : Nat) (hk : k < es.length) (ck c last : Nat) (b : Bool) (lk G : List UInt8) (hG : Sc.gapOf es[k] k c b = G) :
    lk ++ Sc.render (Sc.layL W (es.drop k) k ck c b last) [] = lk ++ G ++ RL W es[k] (Sc.colB ck G) (Sc.tailOf (es.drop (k + 1)) last) ++ Sc.render (Sc.layL W (es.drop (k + 1)) (k + 1) (Sc.colB (Sc.colB ck G) (RL W es[k] (Sc.colB ck G) (Sc.tailOf (es.drop (k + 1)) last))) c b last) [] ∧
    Sc.colB ck (Sc.render (Sc.layL W (es.drop k) k ck c b last) []) = Sc.colB (Sc.colB (Sc.colB ck G) (RL W es[k] (Sc.colB ck G) (Sc.tailOf (es.drop (k + 1)) last))) (Sc.render (Sc.layL W (es.drop (k + 1)) (k + 1) (Sc.colB (Sc.colB ck G) (RL W es[k] (Sc.colB ck G) (Sc.tailOf (es.drop (k + 1)) last))) c b last) []) := by
  rw [List.drop_eq_getElem_cons hk, Sc.layL, hG, Sc.render_app, Sc.render_tl, Sc.lay_gap_render, Sc.colB_app ck G]
  unfold RL
  constructor
  · simp only [List.append_assoc]
  · rw [Sc.colB_app, Sc.colB_app]
theorem lay_len (W : Nat) (e : Sc.El) (c0 : Nat) (g : List UInt8) (tail : Nat) : (e.lay W c0 g tail).length = e.toks.length := by
  rw [← Sc.El.lay_toks W e c0 g tail, List.length_map]
theorem row_cap (W : Nat) (e : Sc.El) (hT : TW e.toks) (ck : Nat) (G : List UInt8) (tl : Nat) (hg : G.length ≤ 100001) (hc : Sc.colB ck G + 2 * Sc.wt e.toks ≤ 100001) :
    Sc.colB (Sc.colB ck G) (RL W e (Sc.colB ck G) tl) + 2 ≤ Sc.colB ck G + 2 * Sc.wt e.toks ∧ (G ++ RL W e (Sc.colB ck G) tl).length ≤ 200001 * e.toks.length := by
  obtain ⟨h1, h2⟩ := Sc.El.lay_cap W 100000 e (fun t ht => ⟨(hT t ht).1, (hT t ht).2.1⟩) ck G tl (by omega) (by omega)
  have h3 := h1.len
  rw [lay_len] at h3
  rw [Sc.lay_gap_render] at h2 h3
  unfold RL
  rw [← Sc.colB_app]
  exact ⟨h2, by omega⟩
theorem Fw.drew {N x : Nat} {a w : World} (h : Fw N x a w) : Fw N x a w.drew := ⟨h.fr.drew, h.keep⟩
theorem Wk.drew {N x : Nat} {W : Int} {l : List UInt8} {c : Nat} {w : World} (h : Wk N x W l c w) : Wk N x W l c w.drew := h.of (Below.drew (Below.refl _ _))
theorem wnl2 {N x : Nat} {W : Int} {l : List UInt8} {c0 : Nat} (c : Nat) {w : World} (h : Wk N x W l c0 w) (hl : l.length + 1 + c ≤ 100000000000) (hc : c ≤ 1000000) :
    Calls Tryd.prog 32 #[.pointer (some ⟨x, 0, none⟩), .int .i64 c] w fun e w' => e = .returned (.tuple #[]) ∧ Wk N x W (l ++ Sc.nl c) (Sc.colB c0 (Sc.nl c)) w' ∧ Fw N x w w' := by
  rw [Sc.colB_nl]; exact wnl c h hl hc
theorem colB_one (c : Nat) : Sc.colB c [32] = c + 1 := rfl

set_option maxRecDepth 100000 in
set_option maxHeartbeats 4000000 in
theorem row_any (es : List Sc.El) (hC : ∀ e ∈ es, ElemW e) (hw : Sc.WFL es) (hT : TW (Sc.toksL es)) (N x W : Nat) (l : List UInt8) (cur : Nat) (w : World) (ao : Option Addr) (cap bn : Nat) (b : Bool) (c last X : Nat) (hbn : bn = if b then 2 else 1) (hW : W ≤ 200) (hk : Wk N x W l cur w)
    (hv : RowV (Ne x) w es.length (.slice ao es.length cap) (ElsAt (Ne x) w es)) (hX1 : cur ≤ X) (hX2 : ∀ e r, es = e :: r → c ≤ X + 2 * Sc.wt e.toks) (hcc : c ≤ 100000) (hX3 : X + 2 * Sc.wt (Sc.toksL es) ≤ 100000) (hl : l.length + 300000 * (Sc.toksL es).length ≤ 10000000000) (hla : last + (Sc.toksL es).length ≤ 1000000) :
    Calls Tryd.prog 30 #[.pointer (some ⟨x, 0, none⟩), .slice ao es.length cap, .int .i64 bn, .int .i64 c, .int .i64 last] w fun r w' => r = .returned (.tuple #[]) ∧
      Wk N x W (l ++ Sc.render (Sc.layL W es 0 cur c b last) []) (Sc.colB cur (Sc.render (Sc.layL W es 0 cur c b last) [])) w' ∧ Fw N x w w' := by
  have hx : x < w.heap.size := Nat.lt_of_lt_of_le hk.x hk.n
  have hke : es.length ≤ 1000000 := by have := toksL_len es; omega
  obtain ⟨T, hTT⟩ : ∃ T, T = Sc.render (Sc.layL W es 0 cur c b last) [] := ⟨_, rfl⟩
  rw [← hTT]
  have HC := hide hC
  have HV := hide hv
  have HK := hide hk
  have HW := hide hw
  have HT := hide hT
  have HTT := hide hTT
  have HBN := hide hbn
  have HX2 := hide hX2
  clear hC hv hk hw hT hTT hX2 hbn
  go_enter Tryd.func30, Tryd.ntmps30
  go_wp2
  go_loopw [14] (fun i wr => ∃ (k : Nat) (lk : List UInt8) (ck Xk : Nat), k ≤ es.length ∧ i = .int .i64 k ∧ Hid (Wk N x W lk ck wr) ∧ Hid (Fw N x w wr) ∧ ck ≤ Xk ∧ (k = 0 → Xk = X) ∧ (0 < k → c ≤ Xk) ∧ Xk + 2 * Sc.wt (Sc.toksL (es.drop k)) ≤ 100000 ∧ lk.length + 300000 * (Sc.toksL (es.drop k)).length ≤ 10000000000 ∧
    Hid (lk ++ Sc.render (Sc.layL W (es.drop k) k ck c b last) [] = l ++ T ∧ Sc.colB ck (Sc.render (Sc.layL W (es.drop k) k ck c b last) []) = Sc.colB cur T)) (fun i _ => es.length - (intOf i).toNat)
  case atStart => exact ⟨0, l, cur, X, by omega, rfl, HK, hide (Fw.refl _ _ _), hX1, fun _ => rfl, fun h => by omega, hX3, hl, hide ⟨by rw [List.drop_zero, HTT.out], by rw [List.drop_zero, HTT.out]⟩⟩
  case round =>
    obtain ⟨k, lk, ck, Xk, h1, rfl, HKR, HFR, hb1, hb0, hb2, hb3, hb4, HEQ⟩ := hrel
    have hsz := HFR.out.fr.size
    by_cases hlt : k < es.length
    · have hvr := HV.out.fw HFR.out (fun cs h => ElsAt.fw HFR.out es cs h)
      obtain ⟨g, cap', pp, vo, vn, vc, e1, hne, hg, hcp, hE, d0, d1, d2, d3, d4, d5⟩ := hvr.cells k hlt
      injection e1 with e1 e2 e3
      subst e1 e3
      have HVR := hide hvr
      have HE := hide hE
      clear hvr hE e2
      have hck : ¬ cap = k := by omega
      have hlk : 0 < es.length - k := by omega
      have hmem : es[k] ∈ es := List.getElem_mem hlt
      have hTe := TW.mem hmem HT.out
      have hdr : Sc.toksL (es.drop k) = es[k].toks ++ Sc.toksL (es.drop (k + 1)) := by rw [List.drop_eq_getElem_cons hlt, Sc.toksL]
      have hwt : Sc.wt (Sc.toksL (es.drop k)) = Sc.wt es[k].toks + Sc.wt (Sc.toksL (es.drop (k + 1))) := by rw [hdr, Sc.wt_app]
      have hle : (Sc.toksL (es.drop k)).length = es[k].toks.length + (Sc.toksL (es.drop (k + 1))).length := by rw [hdr, List.length_append]
      have hwl : (Sc.toksL (es.drop k)).length ≤ (Sc.toksL es).length := by
        have : Sc.toksL es = Sc.toksL (es.take k) ++ Sc.toksL (es.drop k) := by rw [← toksL_app, List.take_append_drop]
        rw [this, List.length_append]; omega
      have htle : Sc.tailOf (es.drop (k + 1)) last + es[k].toks.length ≤ 1000000 := by
        cases hd1 : es.drop (k + 1) with
        | nil => simp only [Sc.tailOf]; omega
        | cons e' r =>
          have he' : e' ∈ es := List.mem_of_mem_drop (by rw [hd1]; exact List.mem_cons_self ..)
          have := (TW.mem he' HT.out).first.2.2.1
          simp only [Sc.tailOf]
          split <;> omega
      have HTL := hide (fun w' (hf : Fw N x wr w') => tail_row es (Ne x) w' g cap (HVR.out.fw hf (fun cs h => ElsAt.fw hf es cs h)) k hlt last HW.out HT.out)
      obtain ⟨tl, htl⟩ : ∃ tl, tl = Sc.tailOf (es.drop (k + 1)) last := ⟨_, rfl⟩
      have HRE := hide (row_eq W es k hlt ck c last b lk)
      rw [← htl] at HTL HRE htle
      have HSTEP : Hid (∀ G, Sc.gapOf es[k] k c b = G → G.length ≤ 100001 → Sc.colB ck G ≤ Xk + 1 → Sz es[k] (lk ++ G) (Sc.colB ck G) tl ∧ ∀ wz, Wk N x W (lk ++ G ++ RL W es[k] (Sc.colB ck G) tl) (Sc.colB (Sc.colB ck G) (RL W es[k] (Sc.colB ck G) tl)) wz → Fw N x w wz →
          ∃ (k' : Nat) (lk : List UInt8) (ck Xk : Nat), k' ≤ es.length ∧ Value.int .i64 ((k + 1 : Nat) : Int) = .int .i64 k' ∧ Hid (Wk N x W lk ck wz) ∧ Hid (Fw N x w wz) ∧ ck ≤ Xk ∧ (k' = 0 → Xk = X) ∧ (0 < k' → c ≤ Xk) ∧ Xk + 2 * Sc.wt (Sc.toksL (es.drop k')) ≤ 100000 ∧ lk.length + 300000 * (Sc.toksL (es.drop k')).length ≤ 10000000000 ∧
            Hid (lk ++ Sc.render (Sc.layL W (es.drop k') k' ck c b last) [] = l ++ T ∧ Sc.colB ck (Sc.render (Sc.layL W (es.drop k') k' ck c b last) []) = Sc.colB cur T)) := by
        refine hide (fun G hG hGl hGc => ?_)
        obtain ⟨q1, q2⟩ := row_cap W es[k] hTe ck G tl hGl (by omega)
        rw [List.length_append] at q2
        have hpos : 0 < es[k].toks.length := by obtain ⟨y, hy⟩ := es[k].toks_first; rw [hy]; simp
        refine ⟨⟨by omega, by rw [List.length_append]; omega, htle⟩, fun wz hwz hfz => ⟨k + 1, _, _, Xk + 2 * Sc.wt es[k].toks, by omega, rfl, hide hwz, hide hfz, by omega, by omega, fun _ => ?_, by omega, by simp only [List.length_append]; omega, hide ?_⟩⟩
        · by_cases h0 : k = 0
          · subst h0
            have := HX2.out es[0] (es.drop 1) (by rw [← List.drop_eq_getElem_cons hlt, List.drop_zero])
            have := hb0 rfl
            omega
          · have := hb2 (by omega)
            omega
        · obtain ⟨r1, r2⟩ := HRE.out G hG
          rw [← r1, ← r2]
          exact HEQ.out
      have HCK := hide (HC.out es[k] hmem N x W)
      have hbe := isB_behind (WFL_mem hmem HW.out) hTe
      clear hdr htl HRE hwt hle hwl hTe hb0 HX2
      by_cases h0 : k = 0
      · have hkb : ((k : Int) == 0) = true := beq_iff_eq.2 (by omega)
        obtain ⟨hS, hZ⟩ := HSTEP.out [] (by unfold Sc.gapOf; rw [if_pos h0]) (by simp) (by rw [Sc.colB_nil]; omega)
        rw [List.append_nil, Sc.colB_nil] at hS hZ
        have HS := hide hS
        have HZ := hide hZ
        clear hS hZ HSTEP h0
        go_wp2
        go_region_with (first
          | (go_at_call 45; refine (HTL.out _ ((Fw.refl N x wr).alloc HKR.out.n _).drew).mono ?_; rintro e1 w1 ⟨rfl, rfl⟩)
          | (go_at_call 44; refine (HCK.out lk ck tl _ pp vo vn vc hW (HKR.out.new _).drew (ElAt.fw ((Fw.refl N x wr).alloc HKR.out.n _).drew es[k] _ HE.out) HS.out).mono ?_; rintro e1 w2 ⟨rfl, hk2, hf2⟩))
        all_goals
          go_wp2
          go_roundw
          case rel =>
            have hz := HZ.out _ hk2 (((HFR.out.alloc HKR.out.n _).drew).trans hf2)
            rw [show ((k + 1 : Nat) : Int) = (k : Int) + 1 by omega] at hz
            exact hz
          case measure => simp [intOf]; omega
      · have hkb : ((k : Int) == 0) = false := beq_eq_false_iff_ne.2 (by omega)
        have hgen : Sc.gapOf es[k] k c b = if es[k].first.behind || (k == 1 && b) then [32] else Sc.nl c := by unfold Sc.gapOf; rw [if_neg h0, hbe]
        have hcX := hb2 (by omega)
        by_cases hkn : (k : Int) < bn
        · have h12 : (k == 1 && b) = true := by
            have := HBN.out
            cases b with
            | true => simp only [if_true] at this; have : k = 1 := by omega
                      simp [this]
            | false => simp only [Bool.false_eq_true, if_false] at this; omega
          clear h0 hbe
          obtain ⟨hS, hZ⟩ := HSTEP.out [32] (by rw [hgen, h12, Bool.or_true, if_pos rfl]) (by simp) (by rw [colB_one]; omega)
          have HS := hide hS
          have HZ := hide hZ
          have HPQ := hide (fun w' (h' : Wk N x W lk ck w') => wput [32] h' (by simp only [List.length_singleton]; omega) (by simp only [List.length_singleton]; omega))
          clear hS hZ HSTEP hgen h12
          go_wp2_with (go_at_call 43; refine (HPQ.out _ (HKR.out.new _)).mono ?_; rintro e1 w1 ⟨rfl, hk1, hf1⟩; have HF1 := hide (((Fw.refl N x wr).alloc HKR.out.n _).trans hf1); have HK1 := hide hk1; have HB1 := hide ((SixB.new wr _ _ _ _ _ _).fw hf1 (by omega)); obtain ⟨hl1, z0, z1, z2, z3, z4, z5, -, -, -, -, -, -⟩ := HB1.out.at; clear hk1 hf1)
          go_region_with (first
            | (go_at_call 45; refine (HTL.out _ HF1.out.drew).mono ?_; rintro e1 w1 ⟨rfl, rfl⟩)
            | (go_at_call 44; refine (HCK.out (lk ++ [32]) (Sc.colB ck [32]) tl _ pp vo vn vc hW HK1.out.drew (ElAt.fw HF1.out.drew es[k] _ HE.out) HS.out).mono ?_; rintro e1 w2 ⟨rfl, hk2, hf2⟩))
          all_goals
            go_wp2
            go_roundw
            case rel =>
              have hz := HZ.out _ hk2 ((HFR.out.trans HF1.out.drew).trans hf2)
              rw [show ((k + 1 : Nat) : Int) = (k : Int) + 1 by omega] at hz
              exact hz
            case measure => simp [intOf]; omega
        · have h12 : (k == 1 && b) = false := by
            have := HBN.out
            cases b with
            | true => simp only [if_true] at this; have : ¬ k = 1 := by omega
                      simp [this]
            | false => simp
          cases hbb : es[k].first.behind with
          | true =>
            clear h0 hbe
            have hbd : es[k].first.behind = true := hbb
            rw [hbb] at d3 HCK
            obtain ⟨hS, hZ⟩ := HSTEP.out [32] (by rw [hgen, hbd, Bool.true_or, if_pos rfl]) (by simp) (by rw [colB_one]; omega)
            have HS := hide hS
            have HZ := hide hZ
            have HPQ := hide (fun w' (h' : Wk N x W lk ck w') => wput [32] h' (by simp only [List.length_singleton]; omega) (by simp only [List.length_singleton]; omega))
            clear hS hZ HSTEP hgen h12 hbd hbb
            go_wp2_with (go_at_call 43; refine (HPQ.out _ (HKR.out.new _)).mono ?_; rintro e1 w1 ⟨rfl, hk1, hf1⟩; have HF1 := hide (((Fw.refl N x wr).alloc HKR.out.n _).trans hf1); have HK1 := hide hk1; have HB1 := hide ((SixB.new wr _ _ _ _ _ _).fw hf1 (by omega)); obtain ⟨hl1, z0, z1, z2, z3, z4, z5, -, -, -, -, -, -⟩ := HB1.out.at; clear hk1 hf1)
            go_region_with (first
              | (go_at_call 45; refine (HTL.out _ HF1.out.drew).mono ?_; rintro e1 w1 ⟨rfl, rfl⟩)
              | (go_at_call 44; refine (HCK.out (lk ++ [32]) (Sc.colB ck [32]) tl _ pp vo vn vc hW HK1.out.drew (ElAt.fw HF1.out.drew es[k] _ HE.out) HS.out).mono ?_; rintro e1 w2 ⟨rfl, hk2, hf2⟩))
            all_goals
              go_wp2
              go_roundw
              case rel =>
                have hz := HZ.out _ hk2 ((HFR.out.trans HF1.out.drew).trans hf2)
                rw [show ((k + 1 : Nat) : Int) = (k : Int) + 1 by omega] at hz
                exact hz
              case measure => simp [intOf]; omega
          | false =>
            clear h0 hbe
            have hbd : es[k].first.behind = false := hbb
            rw [hbb] at d3 HCK
            obtain ⟨hS, hZ⟩ := HSTEP.out (Sc.nl c) (by rw [hgen, hbd, h12, Bool.false_or]; exact if_neg (by simp)) (by simp [Sc.nl]; omega) (by rw [Sc.colB_nl]; omega)
            have HS := hide hS
            have HZ := hide hZ
            have HPQ := hide (fun w' (h' : Wk N x W lk ck w') => wnl2 c h' (by omega) (by omega))
            clear hS hZ HSTEP hgen h12 hbd hbb
            go_wp2_with (go_at_call 32; refine (HPQ.out _ (HKR.out.new _)).mono ?_; rintro e1 w1 ⟨rfl, hk1, hf1⟩; have HF1 := hide (((Fw.refl N x wr).alloc HKR.out.n _).trans hf1); have HK1 := hide hk1; have HB1 := hide ((SixB.new wr _ _ _ _ _ _).fw hf1 (by omega)); obtain ⟨hl1, z0, z1, z2, z3, z4, z5, -, -, -, -, -, -⟩ := HB1.out.at; clear hk1 hf1)
            go_region_with (first
              | (go_at_call 45; refine (HTL.out _ HF1.out.drew).mono ?_; rintro e1 w1 ⟨rfl, rfl⟩)
              | (go_at_call 44; refine (HCK.out (lk ++ (Sc.nl c)) (Sc.colB ck (Sc.nl c)) tl _ pp vo vn vc hW HK1.out.drew (ElAt.fw HF1.out.drew es[k] _ HE.out) HS.out).mono ?_; rintro e1 w2 ⟨rfl, hk2, hf2⟩))
            all_goals
              go_wp2
              go_roundw
              case rel =>
                have hz := HZ.out _ hk2 ((HFR.out.trans HF1.out.drew).trans hf2)
                rw [show ((k + 1 : Nat) : Int) = (k : Int) + 1 by omega] at hz
                exact hz
              case measure => simp [intOf]; omega
    · have hke : k = es.length := by omega
      subst hke
      have hq := HEQ.out
      rw [List.drop_length, Sc.layL] at hq
      have HQ := hide hq
      clear hq
      go_wp2
      go_end0
      have hq := HQ.out
      rw [Sc.render, List.append_nil] at hq
      rw [← hq.1, ← hq.2]
      exact ⟨rfl, HKR.out, HFR.out⟩
end Go.Proofs.YtoieklacpkahbaaDoor
