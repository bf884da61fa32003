/- Walks: the program's writer: elements. -/
import Derived.Test.YtigdfhcmhidhbaaDoorLayN
namespace Go.Proofs.YtigdfhcmhidhbaaDoor
open Go.RowKit
theorem RL_fits {W : Nat} {e : Sc.El} {col tail : Nat} (h : Sc.fits W e col tail = true) : RL W e col tail = Sc.render (e.flat []) [] := by
  unfold RL
  cases e with
  | leaf t => rfl
  | pre t e => rw [Sc.El.lay, Sc.colB_nil, if_pos h]
  | lst o es c => rw [Sc.El.lay, Sc.colB_nil, if_pos h]
theorem colB_flat {e : Sc.El} (h : TW e.toks) (col : Nat) : Sc.colB col (Sc.render (e.flat []) []) = col + e.flen := by
  rw [Sc.colB_no10 _ _ (Sc.El.flat_no10 e (fun t ht => (h t ht).1) [] (fun b hb => by simp at hb))]
  rfl
theorem hfl_of (e : Sc.El) (hw : e.WF) (l : List UInt8) (col tail : Nat) (hs : Sz e l col tail) : e.fl ≤ 50000 ∧ e.flen ≤ 50000 := by
  have h1 := flen_wt e hw
  have h2 := hs.col
  unfold Sc.El.fl
  constructor
  · split <;> omega
  · omega

set_option maxRecDepth 100000 in
set_option maxHeartbeats 4000000 in
theorem elem_fits' (e : Sc.El) (hw : e.WF) (hT : TW e.toks) (N x W : Nat) (l : List UInt8) (col tail : Nat) (w : World) (p : Int) (ao : Option Addr) (n c : Nat) (hW : W ≤ 200) (hk : Wk N x W l col w) (hE : ElAt (Ne x) w e (hd e.first p (.slice ao n c) e.fl)) (hs : Sz e l col tail) (hf : Sc.fits W e col tail = true) :
    Calls Tryd.prog 44 #[.pointer (some ⟨x, 0, none⟩), .agg #[.int .i64 e.first.kind, .string ⟨e.first.text.toArray⟩, .int .i64 p, .bool e.first.behind, .slice ao n c, .int .i64 e.fl], .int .i64 tail] w fun r w' => r = .returned (.tuple #[]) ∧ Wk N x W (l ++ RL W e col tail) (Sc.colB col (RL W e col tail)) w' ∧ Fw N x w w' := by
  rw [RL_fits hf, colB_flat hT]
  obtain ⟨c2, c3, hx⟩ := hk.cells
  have hfe := hfl_of e hw l col tail hs
  have hft := hs.tail
  have hfc := hs.col
  have hle := hs.len
  have hpos : 0 < e.toks.length := by obtain ⟨y, hy⟩ := e.toks_first; rw [hy]; simp
  have hcom : e.com = false := by
    unfold Sc.fits at hf; cases h : e.com <;> simp [h] at hf ⊢
  have hle2 : col + e.flen + tail ≤ W := by
    unfold Sc.fits at hf; simpa [hcom] using hf
  have hfl := Sc.El.fl_pos hcom
  have HFL := hide (fun w' (hf' : Fw N x w w') (h' : Wk N x W l col w') => flat_any e hw (fun t ht => (hT t ht).2.2.2.1) N x W l col w' p ao n c h' (ElAt.fw hf' e _ hE) (by omega) (by omega))
  rw [hfl] at HFL ⊢
  have HK := hide hk
  have hm1 : ((e.flen : Int) == -1) = false := beq_eq_false_iff_ne.2 (by omega)
  have hle3 : (col : Int) + e.flen + tail ≤ W := by omega
  clear hk hE hs hcom hfl hf hfe
  generalize e.flen = fe at *
  generalize hL : l ++ Sc.render (e.flat []) [] = L at *
  clear hL
  generalize e.first.kind = kk at *
  generalize (⟨e.first.text.toArray⟩ : ByteArray) = tt at *
  generalize e.first.behind = bb at *
  have HQ := hide (wrap_small ((col : Int) + fe) (by omega) (by omega))
  have HQ2 := hide (wrap_small ((col : Int) + fe + tail) (by omega) (by omega))
  have HQ3 := hide (show ((fe : Int) != -1 && decide ((col : Int) + fe + tail ≤ W)) = true by rw [bne, hm1, decide_eq_true hle3]; rfl)
  go_enter Tryd.func44, Tryd.ntmps44
  go_wp2
  go_quiet (fail)
  simp only [HQ.out, HQ2.out, HQ3.out]
  go_wp2_with (go_at_call 59; refine (HFL.out _ (((Fw.refl N x w).alloc HK.out.n _).drewN _) ((HK.out.new _).drewN _)).mono ?_; rintro r w1 ⟨rfl, hk1, hf1⟩)
  go_end0
  exact ⟨rfl, hk1, (((Fw.refl N x w).alloc HK.out.n _).drewN _).trans hf1⟩

theorem nofit {W : Nat} {e : Sc.El} {col tail : Nat} (h : Sc.fits W e col tail = false) : e.fl = -1 ∨ (e.fl = e.flen ∧ ¬ (col : Int) + e.flen + tail ≤ W) := by
  unfold Sc.fits at h
  cases hc : e.com with
  | true => exact .inl ((Sc.El.fl_neg e).2 hc)
  | false =>
    rw [hc] at h
    rw [Sc.El.fl_pos hc]
    have : ¬ col + e.flen + tail ≤ W := by simpa using h
    exact .inr ⟨rfl, by omega⟩

set_option maxRecDepth 100000 in
set_option maxHeartbeats 4000000 in
theorem elem_leaf' (t : Sc.Tok) (hw : (Sc.El.leaf t).WF) (hT : TW (Sc.El.leaf t).toks) : ElemW (.leaf t) := by
  intro N x W l col tail w p ao n c hW hk hE hs
  cases hf : Sc.fits W (.leaf t) col tail with
  | true => exact elem_fits' _ hw hT N x W l col tail w p ao n c hW hk hE hs hf
  | false =>
    have hq := nofit hf
    obtain ⟨c2, c3, hx⟩ := hk.cells
    have hft := hs.tail
    have hfc := hs.col
    have hle := hs.len
    have ht := hT t (by simp [Sc.El.toks])
    have hkk : t.kind = 1 ∨ t.kind = 5 := hw
    have hRL : RL W (.leaf t) col tail = t.text := by simp [RL, Sc.El.lay, Sc.render]
    rw [hRL, Sc.colB_no10 _ _ ht.1]
    have htl := ht.2.2.1
    have HP := hide (fun w' (h' : Wk N x W l col w') => wput t.text h' (by omega) (by omega))
    have HK := hide hk
    have k2 : (t.kind == 2) = false := beq_eq_false_iff_ne.2 (by omega)
    have k4 : (t.kind == 4) = false := beq_eq_false_iff_ne.2 (by omega)
    clear hRL hT ht hkk
    show Calls _ _ #[_, .agg #[.int .i64 t.kind, .string ⟨t.text.toArray⟩, .int .i64 p, .bool t.behind, .slice ao n c, .int .i64 (Sc.El.leaf t).fl], _] _ _
    rcases hq with hq | ⟨hq, hq2⟩
    · rw [hq]
      clear hk hE hs hq hf
      go_enter Tryd.func44, Tryd.ntmps44
      go_wp2
      go_quiet (fail)
      go_wp2_with (first
        | (go_at_call 60; refine (is_any _ _ _ _ _ _ _ _).mono ?_; rintro e w2 ⟨he, rfl⟩; (first | rw [k2] at he | rw [k4] at he); subst he)
        | (go_at_call 43; refine (HP.out _ (((((HK.out.new _).drewN _).new _).new _))).mono ?_; rintro e w3 ⟨rfl, hk3, hf3⟩))
      go_end0
      exact ⟨rfl, hk3, ((((((Fw.refl N x w).alloc HK.out.n _).drewN _).alloc ((HK.out.new _).drewN _).n _).alloc (((HK.out.new _).drewN _).new _).n _)).trans hf3⟩
    · have hfe := (hfl_of _ hw l col tail hs).2
      rw [hq]
      clear hk hE hs hq hf
      generalize (Sc.El.leaf t).flen = fe at *
      have hm1 : ((fe : Int) == -1) = false := beq_eq_false_iff_ne.2 (by omega)
      have HQ := hide (wrap_small ((col : Int) + fe) (by omega) (by omega))
      have HQ2 := hide (wrap_small ((col : Int) + fe + tail) (by omega) (by omega))
      have HQ3 := hide (show ((fe : Int) != -1 && decide ((col : Int) + fe + tail ≤ W)) = false by rw [decide_eq_false hq2, Bool.and_false])
      go_enter Tryd.func44, Tryd.ntmps44
      go_wp2
      go_quiet (fail)
      simp only [HQ.out, HQ2.out, HQ3.out]
      go_wp2_with (first
        | (go_at_call 60; refine (is_any _ _ _ _ _ _ _ _).mono ?_; rintro e w2 ⟨he, rfl⟩; (first | rw [k2] at he | rw [k4] at he); subst he)
        | (go_at_call 43; refine (HP.out _ (((((HK.out.new _).drewN _).new _).new _))).mono ?_; rintro e w3 ⟨rfl, hk3, hf3⟩))
      go_end0
      exact ⟨rfl, hk3, ((((((Fw.refl N x w).alloc HK.out.n _).drewN _).alloc ((HK.out.new _).drewN _).n _).alloc (((HK.out.new _).drewN _).new _).n _)).trans hf3⟩
end Go.Proofs.YtigdfhcmhidhbaaDoor
