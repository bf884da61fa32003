/- Walks: the program's writer: elements. -/
/- Walks: the program's writer: every element. -/
import Derived.Test.YtoieklacpkahbaaDoorLayN
namespace Go.Proofs.YtoieklacpkahbaaDoor
open Go.RowKit
theorem RL_fits {W : Nat} {e : Sc.El} {col tail : Nat} (h : Sc.fits W e col tail = true) : RL W e col tail = Sc.render (e.flat []) [] := by
  unfold RL
  cases e with
  | leaf t => rfl
  | pre t e => rw [Sc.El.lay, Sc.colB_nil, if_pos h]
  | lst o es c => rw [Sc.El.lay, Sc.colB_nil, if_pos h]
theorem colB_flat {e : Sc.El} (h : TW e.toks) (col : Nat) : Sc.colB col (Sc.render (e.flat []) []) = col + e.flen := by
  rw [Sc.colB_no10 _ _ (Sc.El.flat_no10 e (fun t ht => (h t ht).1) [] (fun b hb => by simp at hb))]
  rfl
theorem hfl_of (e : Sc.El) (hw : e.WF) (l : List UInt8) (col tail : Nat) (hs : Sz e l col tail) : e.fl ≤ 50000 ∧ e.flen ≤ 50000 := by
  have h1 := flen_wt e hw
  have h2 := hs.col
  unfold Sc.El.fl
  constructor
  · split <;> omega
  · omega

set_option maxRecDepth 100000 in
set_option maxHeartbeats 4000000 in
theorem elem_fits' (e : Sc.El) (hw : e.WF) (hT : TW e.toks) (N x W : Nat) (l : List UInt8) (col tail : Nat) (w : World) (p : Int) (ao : Option Addr) (n c : Nat) (hW : W ≤ 200) (hk : Wk N x W l col w) (hE : ElAt (Ne x) w e (hd e.first p (.slice ao n c) e.fl)) (hs : Sz e l col tail) (hf : Sc.fits W e col tail = true) :
    Calls Tryd.prog 44 #[.pointer (some ⟨x, 0, none⟩), .agg #[.int .i64 e.first.kind, .string ⟨e.first.text.toArray⟩, .int .i64 p, .bool e.first.behind, .slice ao n c, .int .i64 e.fl], .int .i64 tail] w fun r w' => r = .returned (.tuple #[]) ∧ Wk N x W (l ++ RL W e col tail) (Sc.colB col (RL W e col tail)) w' ∧ Fw N x w w' := by
  rw [RL_fits hf, colB_flat hT]
  obtain ⟨c2, c3, hx⟩ := hk.cells
  have hfe := hfl_of e hw l col tail hs
  have hft := hs.tail
  have hfc := hs.col
  have hle := hs.len
  have hpos : 0 < e.toks.length := by obtain ⟨y, hy⟩ := e.toks_first; rw [hy]; simp
  have hcom : e.com = false := by
    unfold Sc.fits at hf; cases h : e.com <;> simp [h] at hf ⊢
  have hle2 : col + e.flen + tail ≤ W := by
    unfold Sc.fits at hf; simpa [hcom] using hf
  have hfl := Sc.El.fl_pos hcom
  have HFL := hide (fun w' (hf' : Fw N x w w') (h' : Wk N x W l col w') => flat_any e hw (fun t ht => (hT t ht).2.2.2.1) N x W l col w' p ao n c h' (ElAt.fw hf' e _ hE) (by omega) (by omega))
  rw [hfl] at HFL ⊢
  have HK := hide hk
  have hm1 : ((e.flen : Int) == -1) = false := beq_eq_false_iff_ne.2 (by omega)
  have hle3 : (col : Int) + e.flen + tail ≤ W := by omega
  clear hk hE hs hcom hfl hf hfe
  generalize e.flen = fe at *
  generalize hL : l ++ Sc.render (e.flat []) [] = L at *
  clear hL
  generalize e.first.kind = kk at *
  generalize (⟨e.first.text.toArray⟩ : ByteArray) = tt at *
  generalize e.first.behind = bb at *
  have HQ := hide (wrap_small ((col : Int) + fe) (by omega) (by omega))
  have HQ2 := hide (wrap_small ((col : Int) + fe + tail) (by omega) (by omega))
  have HQ3 := hide (show ((fe : Int) != -1 && decide ((col : Int) + fe + tail ≤ W)) = true by rw [bne, hm1, decide_eq_true hle3]; rfl)
  go_enter Tryd.func44, Tryd.ntmps44
  go_wp2
  go_quiet (fail)
  simp only [HQ.out, HQ2.out, HQ3.out]
  go_wp2_with (go_at_call 59; refine (HFL.out _ (((Fw.refl N x w).alloc HK.out.n _).drewN _) ((HK.out.new _).drewN _)).mono ?_; rintro r w1 ⟨rfl, hk1, hf1⟩)
  go_end0
  exact ⟨rfl, hk1, (((Fw.refl N x w).alloc HK.out.n _).drewN _).trans hf1⟩

theorem nofit {W : Nat} {e : Sc.El} {col tail : Nat} (h : Sc.fits W e col tail = false) : e.fl = -1 ∨ (e.fl = e.flen ∧ ¬ (col : Int) + e.flen + tail ≤ W) := by
  unfold Sc.fits at h
  cases hc : e.com with
  | true => exact .inl ((Sc.El.fl_neg e).2 hc)
  | false =>
    rw [hc] at h
    rw [Sc.El.fl_pos hc]
    have : ¬ col + e.flen + tail ≤ W := by simpa using h
    exact .inr ⟨rfl, by omega⟩

set_option maxRecDepth 100000 in
set_option maxHeartbeats 4000000 in
theorem elem_leaf' (t : Sc.Tok) (hw : (Sc.El.leaf t).WF) (hT : TW (Sc.El.leaf t).toks) : ElemW (.leaf t) := by
  intro N x W l col tail w p ao n c hW hk hE hs
  cases hf : Sc.fits W (.leaf t) col tail with
  | true => exact elem_fits' _ hw hT N x W l col tail w p ao n c hW hk hE hs hf
  | false =>
    have hq := nofit hf
    obtain ⟨c2, c3, hx⟩ := hk.cells
    have hft := hs.tail
    have hfc := hs.col
    have hle := hs.len
    have ht := hT t (by simp [Sc.El.toks])
    have hkk : t.kind = 1 ∨ t.kind = 5 := hw
    have hRL : RL W (.leaf t) col tail = t.text := by simp [RL, Sc.El.lay, Sc.render]
    rw [hRL, Sc.colB_no10 _ _ ht.1]
    have htl := ht.2.2.1
    have HP := hide (fun w' (h' : Wk N x W l col w') => wput t.text h' (by omega) (by omega))
    have HK := hide hk
    have k2 : (t.kind == 2) = false := beq_eq_false_iff_ne.2 (by omega)
    have k4 : (t.kind == 4) = false := beq_eq_false_iff_ne.2 (by omega)
    clear hRL hT ht hkk
    show Calls _ _ #[_, .agg #[.int .i64 t.kind, .string ⟨t.text.toArray⟩, .int .i64 p, .bool t.behind, .slice ao n c, .int .i64 (Sc.El.leaf t).fl], _] _ _
    rcases hq with hq | ⟨hq, hq2⟩
    · rw [hq]
      clear hk hE hs hq hf
      go_enter Tryd.func44, Tryd.ntmps44
      go_wp2
      go_quiet (fail)
      go_wp2_with (first
        | (go_at_call 60; refine (is_any _ _ _ _ _ _ _ _).mono ?_; rintro e w2 ⟨he, rfl⟩; (first | rw [k2] at he | rw [k4] at he); subst he)
        | (go_at_call 43; refine (HP.out _ (((((HK.out.new _).drewN _).new _).new _))).mono ?_; rintro e w3 ⟨rfl, hk3, hf3⟩))
      go_end0
      exact ⟨rfl, hk3, ((((((Fw.refl N x w).alloc HK.out.n _).drewN _).alloc ((HK.out.new _).drewN _).n _).alloc (((HK.out.new _).drewN _).new _).n _)).trans hf3⟩
    · have hfe := (hfl_of _ hw l col tail hs).2
      rw [hq]
      clear hk hE hs hq hf
      generalize (Sc.El.leaf t).flen = fe at *
      have hm1 : ((fe : Int) == -1) = false := beq_eq_false_iff_ne.2 (by omega)
      have HQ := hide (wrap_small ((col : Int) + fe) (by omega) (by omega))
      have HQ2 := hide (wrap_small ((col : Int) + fe + tail) (by omega) (by omega))
      have HQ3 := hide (show ((fe : Int) != -1 && decide ((col : Int) + fe + tail ≤ W)) = false by rw [decide_eq_false hq2, Bool.and_false])
      go_enter Tryd.func44, Tryd.ntmps44
      go_wp2
      go_quiet (fail)
      simp only [HQ.out, HQ2.out, HQ3.out]
      go_wp2_with (first
        | (go_at_call 60; refine (is_any _ _ _ _ _ _ _ _).mono ?_; rintro e w2 ⟨he, rfl⟩; (first | rw [k2] at he | rw [k4] at he); subst he)
        | (go_at_call 43; refine (HP.out _ (((((HK.out.new _).drewN _).new _).new _))).mono ?_; rintro e w3 ⟨rfl, hk3, hf3⟩))
      go_end0
      exact ⟨rfl, hk3, ((((((Fw.refl N x w).alloc HK.out.n _).drewN _).alloc ((HK.out.new _).drewN _).n _).alloc (((HK.out.new _).drewN _).new _).n _)).trans hf3⟩
end Go.Proofs.YtoieklacpkahbaaDoor
namespace Go.Proofs.YtoieklacpkahbaaDoor
open Go.RowKit
theorem row_len (W : Nat) (es : List Sc.El) (hT : TW (Sc.toksL es)) (cur c last : Nat) (b : Bool) (hc : ∀ e r, es = e :: r → c ≤ cur + 2 * Sc.wt e.toks) (hX : cur + 2 * Sc.wt (Sc.toksL es) ≤ 100001) : (Sc.render (Sc.layL W es 0 cur c b last) []).length ≤ 200001 * (Sc.toksL es).length := by
  cases es with
  | nil => simp [Sc.layL, Sc.render]
  | cons e r =>
    have hc' := hc e r rfl
    rw [Sc.toksL] at hT hX ⊢
    rw [Sc.wt_app] at hX
    have hTe := hT.left
    obtain ⟨h1, h2⟩ := row_cap W e hTe cur [] (Sc.tailOf r last) (by simp) (by rw [Sc.colB_nil]; omega)
    rw [Sc.colB_nil] at h1 h2
    have e1 : Sc.gapOf e 0 c b = [] := rfl
    rw [Sc.layL, e1, Sc.render_app, Sc.render_tl, List.length_append, List.length_append]
    have h3 : Sc.colB cur (Sc.render (e.lay W cur [] (Sc.tailOf r last)) []) ≤ cur + 2 * Sc.wt e.toks := by
      have : Sc.colB cur (Sc.render (e.lay W cur [] (Sc.tailOf r last)) []) + 2 ≤ cur + 2 * Sc.wt e.toks := h1
      omega
    have h4 := (Sc.layL_cap W 100000 r (fun t ht => ⟨(hT.right t ht).1, (hT.right t ht).2.1⟩) 1 (Sc.colB cur (Sc.render (e.lay W cur [] (Sc.tailOf r last)) [])) c b last (cur + 2 * Sc.wt e.toks) h3 hc' (by omega)).1.len
    have h5 : (Sc.layL W r 1 (Sc.colB cur (Sc.render (e.lay W cur [] (Sc.tailOf r last)) [])) c b last).length = (Sc.toksL r).length := by rw [← Sc.layL_toks W r 1 _ c b last, List.length_map]
    rw [h5] at h4
    have h6 : (Sc.render (e.lay W cur [] (Sc.tailOf r last)) []).length ≤ 200001 * e.toks.length := by simpa [RL] using h2
    simp only [Nat.zero_add] at *
    omega

set_option maxRecDepth 100000 in
set_option maxHeartbeats 4000000 in
theorem elem_lst' (o c0 : Sc.Tok) (es : List Sc.El) (hw : (Sc.El.lst o es c0).WF) (hT : TW (Sc.El.lst o es c0).toks) (hC : ∀ e ∈ es, ElemW e) : ElemW (.lst o es c0) := by
  intro N x W l col tail w p ao n c hW hk hE hs
  cases hf : Sc.fits W (.lst o es c0) col tail with
  | true => exact elem_fits' _ hw hT N x W l col tail w p ao n c hW hk hE hs hf
  | false =>
    have hq := nofit hf
    obtain ⟨c2, c3, hx⟩ := hk.cells
    have hft := hs.tail
    have hfc := hs.col
    have hle := hs.len
    obtain ⟨hw1, hw2, hw3⟩ : o.kind = 2 ∧ c0.kind = 3 ∧ Sc.WFL es := hw
    have ho := hT o (by simp [Sc.El.toks])
    have hc0 := (hT c0 (by simp [Sc.El.toks])).2.2.2.1 hw2
    have hTe : TW (Sc.toksL es) := fun t ht => hT t (by simp [Sc.El.toks, ht])
    have hRL : RL W (.lst o es c0) col tail = Sc.brk W o es col (col + (Sc.style o es).1) (Sc.style o es).2 tail := by
      unfold RL Sc.brk
      rw [Sc.El.lay, Sc.colB_nil, if_neg (by rw [hf]; simp), Sc.render, Sc.render_app, Sc.render_tl (Sc.layL ..)]
      simp [Sc.render, hc0]
    rw [hRL]
    have hv : n = es.length ∧ RowV (Ne x) w es.length (.slice ao es.length c) (ElsAt (Ne x) w es) := by
      simp only [ElAt] at hE
      obtain ⟨p', v, hE, hv⟩ := hE
      have hv' : Value.slice ao n c = v := hd_v hE
      subst hv'
      have hn : n = es.length := by
        rcases hv with ⟨h, h', _⟩ | ⟨g, cap, cur, h, _⟩
        · injection h with _ h _; omega
        · injection h
      exact ⟨hn, hn ▸ hv⟩
    obtain ⟨rfl, hv⟩ := hv
    have hwt : Sc.wt (Sc.El.lst o es c0).toks = o.text.length + 1 + (Sc.wt (Sc.toksL es) + 2) := by
      rw [Sc.El.toks, Sc.wt, Sc.wt_app]; simp [Sc.wt, hc0]
    have htl : (Sc.El.lst o es c0).toks.length = (Sc.toksL es).length + 2 := by simp [Sc.El.toks]
    rw [hwt] at hfc
    rw [htl] at hle hft
    have hol := ho.2.2.1
    have hsl := Sc.style_le o es ho.2.1
    have hcx : ∀ b c', (c', b) = (col + (Sc.style o es).1, (Sc.style o es).2) ∨ (c', b) = (col + 2, Sc.pl2 es) → ∀ e r, es = e :: r → c' ≤ col + o.text.length + 2 * Sc.wt e.toks := by
      intro b c' hbc e r he
      have hp := Sc.wt_pos e
      rcases hbc with h | h
      · injection h with h1 _
        rcases hsl with h2 | ⟨f, r', h2, h3⟩
        · omega
        · rw [he] at h2
          injection h2 with h2 _
          subst h2
          simp [Sc.El.toks, Sc.wt]; omega
      · injection h with h1 _
        have := ho.2.1
        omega
    have HL := hide (fun w' (hf' : Fw N x w w') (h' : Wk N x W l col w') => list_any o es hC hw3 hTe ho.1 ho.2.1 hol N x W l col w' p (Sc.El.lst o es c0).fl ao c tail hW h' (hv.fw hf' (fun cs h => ElsAt.fw hf' es cs h)) (by omega) (by omega) (by omega) (fun b c' hbc => by
      have := row_len W es hTe (col + o.text.length) c' (tail + 1) b (hcx b c' hbc) (by omega)
      omega))
    have HK := hide hk
    have k2 : (o.kind == 2) = true := beq_iff_eq.2 hw1
    have hw : (Sc.El.lst o es c0).WF := ⟨hw1, hw2, hw3⟩
    rw [show (Sc.El.lst o es c0).first = o from rfl]
    clear hRL hT hTe ho hv hcx hsl hw1 hw2 hw3 hC hwt htl
    rcases hq with hq | ⟨hq, hq2⟩
    · rw [hq] at HL ⊢
      clear hk hE hs hq hf
      go_enter Tryd.func44, Tryd.ntmps44
      go_wp2
      go_quiet (fail)
      go_wp2_with (first
        | (go_at_call 60; refine (is_any _ _ _ _ _ _ _ _).mono ?_; rintro e w2 ⟨he, rfl⟩; rw [k2] at he; subst he)
        | (go_at_call 61; refine (HL.out _ ((((Fw.refl N x w).alloc HK.out.n _).drewN _).alloc ((HK.out.new _).drewN _).n _) (((HK.out.new _).drewN _).new _)).mono ?_; rintro e w3 ⟨rfl, hk3, hf3⟩))
      go_end0
      exact ⟨rfl, hk3, (((((Fw.refl N x w).alloc HK.out.n _).drewN _).alloc ((HK.out.new _).drewN _).n _)).trans hf3⟩
    · have hfe := (hfl_of _ hw l col tail hs).2
      rw [hq] at HL ⊢
      clear hk hE hs hq hf
      generalize (Sc.El.lst o es c0).flen = fe at *
      have hm1 : ((fe : Int) == -1) = false := beq_eq_false_iff_ne.2 (by omega)
      have HQ := hide (wrap_small ((col : Int) + fe) (by omega) (by omega))
      have HQ2 := hide (wrap_small ((col : Int) + fe + tail) (by omega) (by omega))
      have HQ3 := hide (show ((fe : Int) != -1 && decide ((col : Int) + fe + tail ≤ W)) = false by rw [decide_eq_false hq2, Bool.and_false])
      go_enter Tryd.func44, Tryd.ntmps44
      go_wp2
      go_quiet (fail)
      simp only [HQ.out, HQ2.out, HQ3.out]
      go_wp2_with (first
        | (go_at_call 60; refine (is_any _ _ _ _ _ _ _ _).mono ?_; rintro e w2 ⟨he, rfl⟩; rw [k2] at he; subst he)
        | (go_at_call 61; refine (HL.out _ ((((Fw.refl N x w).alloc HK.out.n _).drewN _).alloc ((HK.out.new _).drewN _).n _) (((HK.out.new _).drewN _).new _)).mono ?_; rintro e w3 ⟨rfl, hk3, hf3⟩))
      go_end0
      exact ⟨rfl, hk3, (((((Fw.refl N x w).alloc HK.out.n _).drewN _).alloc ((HK.out.new _).drewN _).n _)).trans hf3⟩
end Go.Proofs.YtoieklacpkahbaaDoor
