/- Walks: the program's writer: lists. -/
import Derived.Test.YtoieklacpkahbaaDoorLayM
import Derived.Laws.EntriesVeiled
namespace Go.Proofs.YtoieklacpkahbaaDoor
open Go.RowKit
namespace Sc
theorem hdW_form {o : Tok} {es : List El} (hw : WFL es) {S : List (List UInt8)} (h0 : ([] : List UInt8) ∉ S) (h : hdW o es ∈ S) : ∃ f r, es = .leaf f :: r ∧ f.kind = 1 ∧ o.text = [40] ∧ f.text ∈ S := by
  cases es with
  | nil => exact absurd h h0
  | cons e r =>
    have he : hdW o (e :: r) = if o.text = [40] ∧ e.first.kind = 1 then e.first.text else [] := rfl
    rw [he] at h
    by_cases hc : o.text = [40] ∧ e.first.kind = 1
    · rw [if_pos hc] at h
      cases e with
      | leaf f => exact ⟨f, r, rfl, hc.2, hc.1, h⟩
      | pre t e => have h4 := hw.1.1; have h5 : t.kind = 1 := hc.2; omega
      | lst o' es' c => have h4 := hw.1.1; have h5 : o'.kind = 1 := hc.2; omega
    · rw [if_neg hc] at h
      exact absurd h h0
theorem hdW_leaf (o f : Tok) (r : List El) (h1 : f.kind = 1) (ho : o.text = [40]) : hdW o (.leaf f :: r) = f.text := by
  exact if_pos ⟨ho, h1⟩
theorem brk_one (W : Nat) (o : Tok) (e : El) (col c tail : Nat) (b b' : Bool) : brk W o [e] col c b tail = brk W o [e] col c b' tail := by
  unfold brk; rw [layL, layL, layL, layL]; rfl
theorem pl2_eq (f : Tok) (e : El) (r : List El) (hw : e.WF) : pl2 (.leaf f :: e :: r) = !e.isC := by
  show (!(e.first.kind == 5)) = _
  rw [El.isC_first_eq hw]
theorem sty_form {o : Tok} {es : List El} (hw : WFL es) (h : hdW o es ∈ forms) : (style o es).1 = 2 ∧ ∀ W col c tail, brk W o es col c (style o es).2 tail = brk W o es col c (pl2 es) tail := by
  obtain ⟨f, r, rfl, h1, h2, h3⟩ := hdW_form hw (by decide) h
  unfold style
  simp only
  rw [if_pos h1, if_pos ⟨h2, h3⟩]
  refine ⟨rfl, fun W col c tail => ?_⟩
  cases r with
  | nil => exact brk_one ..
  | cons e r => rw [pl2_eq f e r hw.2.1]
theorem sty_block {o : Tok} {es : List El} (hw : WFL es) (hn : hdW o es ∉ forms) (h : hdW o es ∈ blocks) : style o es = (2, false) := by
  obtain ⟨f, r, rfl, h1, h2, h3⟩ := hdW_form hw (by decide) h
  rw [hdW_leaf o f r h1 h2] at hn
  unfold style
  simp only
  rw [if_pos h1, if_neg (fun h => hn h.2), if_pos ⟨h2, h3⟩]
theorem isCl_form {es : List El} (hw : WFL es) (h : isCl es = true) : ∃ f e r, es = .leaf f :: e :: r ∧ f.kind = 1 ∧ f.text.take 2 ≠ [35, 124] ∧ e.isC = false := by
  match es, hw, h with
  | [e], _, h => simp [isCl, pl2] at h
  | e :: e' :: r, hw, h =>
    simp only [isCl, Bool.and_eq_true] at h
    obtain ⟨h1, h2, h3⟩ := h
    have hk : e.first.kind = 1 := by simpa using h2
    cases e with
    | pre t e => have := hw.1.1; simp [El.first] at hk; omega
    | lst o' es' c => have := hw.1.1; simp [El.first] at hk; omega
    | leaf f =>
      refine ⟨f, e', r, rfl, hk, ?_, ?_⟩
      · simpa [El.first] using h3
      · rw [pl2_eq f e' r hw.2.1] at h1; simpa using h1
theorem sty_call {o : Tok} {es : List El} (hw : WFL es) (hn : hdW o es ∉ forms) (hb : hdW o es ∉ blocks) (h : isCl es = true) : ∃ f e r, es = .leaf f :: e :: r ∧ style o es = (o.text.length + f.text.length + 1, true) := by
  obtain ⟨f, e, r, rfl, h1, h2, h3⟩ := isCl_form hw h
  refine ⟨f, e, r, rfl, ?_⟩
  unfold style
  simp only
  rw [if_pos h1, if_neg (fun h => hn (by rw [hdW_leaf o f _ h1 h.1]; exact h.2)), if_neg (fun h => hb (by rw [hdW_leaf o f _ h1 h.1]; exact h.2)), if_pos ⟨h2, h3⟩]
theorem sty_rows {o : Tok} {es : List El} (hw : WFL es) (hn : hdW o es ∉ forms) (hb : hdW o es ∉ blocks) (h : isCl es = false) : style o es = (o.text.length, false) := by
  match es, hw, h with
  | [], _, _ => rfl
  | .pre _ _ :: _, _, _ => rfl
  | .lst _ _ _ :: _, _, _ => rfl
  | .leaf f :: r, hw, h =>
    unfold style
    simp only
    by_cases h1 : f.kind = 1
    · rw [if_pos h1, if_neg (fun h => hn (by rw [hdW_leaf o f _ h1 h.1]; exact h.2)), if_neg (fun h => hb (by rw [hdW_leaf o f _ h1 h.1]; exact h.2))]
      cases r with
      | nil => rfl
      | cons e r =>
        simp only
        rw [if_neg]
        rintro ⟨h2, h3⟩
        have : isCl (.leaf f :: e :: r) = true := by
          simp only [isCl]
          rw [pl2_eq f e r hw.2.1, h3]
          simp [El.first, h1, h2]
        rw [this] at h; cases h
    · rw [if_neg h1]
end Sc

set_option maxHeartbeats 1000000 in
theorem isRows_any (a b c d v f : Value) (w : World) :
    Calls Tryd.prog 102 #[.agg #[a, b, c, d, v, f]] w fun e w' => e = .returned (.bool true) ∧ w' = w.alloc (.cells #[a, b, c, d, v, f] 85) := by
  go_enter Tryd.func102, Tryd.ntmps102
  go_wp2
  go_ret
  exact ⟨rfl, rfl⟩
def TabV : Array Value := #[.func (.func 96) #[] #[], .func (.func 97) #[] #[], .func (.func 98) #[] #[], .func (.func 99) #[] #[], .func (.func 100) #[] #[], .func (.func 101) #[] #[], .func (.func 102) #[] #[], .func (.func 103) #[] #[]]
def Tab (b : Nat) (w : World) : Prop := w.heap[b]? = some (.cells TabV 123 (0, 0))
theorem Tab.fw {N x b : Nat} {w w' : World} (h : Tab b w) (hf : Fw N x w w') (hx : b ≠ x) : Tab b w' := (hf.keep b _ _ _ hx h (by decide)).trans h
theorem Tab.be {b : Nat} {w w' : World} (h : Tab b w) (hb : Below w.heap.size w w') : Tab b w' := (hb.block b (Array.getElem?_eq_some_iff.1 h).1).trans h
theorem Tab.new {b : Nat} {w : World} (h : Tab b w) (o : Obj) : Tab b (w.alloc o) := h.be ((Below.refl _ _).alloc (Nat.le_refl _) _)
theorem BrkC.base {N x : Nat} {W : Int} {l : List UInt8} {col : Nat} {w w1 : World} {o : Sc.Tok} {p f : Int} {ao : Option Addr} {n cap bn c tail : Nat} {L : List UInt8} {C : Nat} (H : BrkC N x W l col w o p f ao n cap bn c tail L C) (hf : Fw N x w w1) : BrkC N x W l col w1 o p f ao n cap bn c tail L C := fun w' h => H w' (hf.trans h)
theorem Tab.at {b : Nat} {w : World} (h : Tab b w) (j : Nat) : w.cell? ⟨b, j, none⟩ = TabV[j]? := Lib.cell_of_heap h j

set_option maxRecDepth 100000 in
set_option maxHeartbeats 4000000 in
theorem list_any (o : Sc.Tok) (es : List Sc.El) (hC : ∀ e ∈ es, ElemW e) (hw : Sc.WFL es) (hT : TW (Sc.toksL es)) (ho : Sc.No10 o.text) (ho0 : 0 < o.text.length) (hol : o.text.length ≤ 4096) (N x W : Nat) (l : List UInt8) (col : Nat) (w : World) (p f : Int) (ao : Option Addr) (cap : Nat) (tail : Nat) (hW : W ≤ 200) (hk : Wk N x W l col w)
    (hv : RowV (Ne x) w es.length (.slice ao es.length cap) (ElsAt (Ne x) w es)) (hX3 : col + o.text.length + 2 * Sc.wt (Sc.toksL es) + 6 ≤ 100001) (hl : l.length + o.text.length + 300000 * (Sc.toksL es).length ≤ 10000000000) (hla : tail + 1 + (Sc.toksL es).length ≤ 1000000)
    (hRl : ∀ b c, (c, b) = (col + (Sc.style o es).1, (Sc.style o es).2) ∨ (c, b) = (col + 2, Sc.pl2 es) → (Sc.render (Sc.layL W es 0 (col + o.text.length) c b (tail + 1)) []).length ≤ 10000000000) :
    Calls Tryd.prog 61 #[.pointer (some ⟨x, 0, none⟩), .agg #[.int .i64 o.kind, .string ⟨o.text.toArray⟩, .int .i64 p, .bool o.behind, .slice ao es.length cap, .int .i64 f], .int .i64 tail] w fun r w' => r = .returned (.tuple #[]) ∧
      Wk N x W (l ++ Sc.brk W o es col (col + (Sc.style o es).1) (Sc.style o es).2 tail) (Sc.colB col (Sc.brk W o es col (col + (Sc.style o es).1) (Sc.style o es).2 tail)) w' ∧ Fw N x w w' := by
  have hx : x < w.heap.size := hk.cells.2.2
  have hsl := Sc.style_le o es ho0
  have HV := hide (fun w' (hf : Fw N x w w') => hv.fw hf (fun cs h => ElsAt.fw hf es cs h))
  obtain ⟨L, hL⟩ : ∃ L, L = l ++ Sc.brk W o es col (col + (Sc.style o es).1) (Sc.style o es).2 tail := ⟨_, rfl⟩
  obtain ⟨C, hCC⟩ : ∃ C, C = Sc.colB col (Sc.brk W o es col (col + (Sc.style o es).1) (Sc.style o es).2 tail) := ⟨_, rfl⟩
  have HBK : Hid (∀ (b : Bool) (c : Nat), ((c, b) = (col + (Sc.style o es).1, (Sc.style o es).2) ∨ (c, b) = (col + 2, Sc.pl2 es)) → Sc.brk W o es col c b tail = Sc.brk W o es col (col + (Sc.style o es).1) (Sc.style o es).2 tail → BrkC N x W l col w o p f ao es.length cap (if b then 2 else 1) c tail L C) := by
    refine hide (fun b c hbc heq w' hf h' => ?_)
    have hcb : c ≤ col + o.text.length + 1 ∨ ∃ f r, es = .leaf f :: r ∧ c = col + (o.text.length + f.text.length + 1) := by
      rcases hbc with h | h
      · injection h with h1 _
        rcases hsl with h2 | ⟨f, r, h2, h3⟩
        · left; omega
        · right; exact ⟨f, r, h2, by omega⟩
      · injection h with h1 _
        left; omega
    have hc2 : ∀ e r, es = e :: r → c ≤ col + o.text.length + 2 * Sc.wt e.toks := by
      intro e r he
      have hp := Sc.wt_pos e
      rcases hcb with h | ⟨f, r', h1, h2⟩
      · omega
      · rw [he] at h1
        injection h1 with h1 _
        subst h1
        simp [Sc.El.toks, Sc.wt]; omega
    have hc3 : c ≤ 100000 := by
      rcases hcb with h | ⟨f, r', h1, h2⟩
      · omega
      · have := hc2 _ _ h1
        have h4 : Sc.wt (Sc.toksL es) = Sc.wt (Sc.El.leaf f).toks + Sc.wt (Sc.toksL r') := by rw [h1, Sc.toksL, Sc.wt_app]
        omega
    have := broken_any o es hC hw hT ho hol N x W l col w' p f ao cap (if b then 2 else 1) b c tail rfl hW h' (HV.out w' hf) hc2 hc3 (by omega) hl hla (hRl b c hbc)
    rw [heq, ← hL, ← hCC] at this
    exact this
  rw [← hL, ← hCC]
  have HF := hide (fun w' (hf : Fw N x w w') => isForm_any o p f (.slice ao es.length cap) es (Ne x) w' (HV.out w' hf))
  have HBl := hide (fun w' (hf : Fw N x w w') => isBlock_any o p f (.slice ao es.length cap) es (Ne x) w' (HV.out w' hf))
  have HCl := hide (fun w' (hf : Fw N x w w') => isCall_any o p f (.slice ao es.length cap) es (Ne x) w' (HV.out w' hf))
  have HK := hide hk
  have HWF := hide hw
  have HT := hide hT
  clear hC hw hT hk hL hCC hRl hsl hv
  have hol2 := hol
  have HOL := hide hol2
  clear hol2
  go_enter Tryd.func61, Tryd.ntmps61
  go_wp2
  go_loopw [10] (fun i wr => ∃ k : Nat, k ≤ 3 ∧ i = .int .i64 k ∧ Hid (Wk N x W l col wr) ∧ Hid (Fw N x w wr) ∧ Hid (SixB w.heap.size (.int .i64 o.kind) (.string ⟨o.text.toArray⟩) (.int .i64 p) (.bool o.behind) (.slice ao es.length cap) (.int .i64 f) wr) ∧ Hid (Tab (w.heap.size + 1) wr) ∧ Hid (1 ≤ k → Sc.hdW o es ∉ Sc.forms) ∧ Hid (2 ≤ k → Sc.hdW o es ∉ Sc.blocks) ∧ Hid (3 ≤ k → Sc.isCl es = false)) (fun i _ => 4 - (intOf i).toNat)
  case atStart =>
    refine ⟨0, by omega, rfl, hide ((HK.out.new _).new _), hide (((Fw.refl N x w).alloc HK.out.n _).alloc (by have := HK.out.n; simp; omega) _), hide ((SixB.new w _ _ _ _ _ _).alloc _), hide ?_, hide (by omega), hide (by omega), hide (by omega)⟩
    have := heap_alloc_new (w.alloc (.cells #[.int .i64 o.kind, .string ⟨o.text.toArray⟩, .int .i64 p, .bool o.behind, .slice ao es.length cap, .int .i64 f] 85)) (.cells TabV 123)
    rw [show (w.alloc (.cells #[.int .i64 o.kind, .string ⟨o.text.toArray⟩, .int .i64 p, .bool o.behind, .slice ao es.length cap, .int .i64 f] 85)).heap.size = w.heap.size + 1 by simp] at this
    exact this
  case round =>
    obtain ⟨k, hk3, rfl, HKR, HFR, HBR, HTR, HN1, HN2, HN3⟩ := hrel
    obtain ⟨hl1, c0, c1, c2, c3, c4, c5, -, -, -, -, -, -⟩ := HBR.out.at
    have hl2 : w.heap.size + 1 < wr.heap.size := (Array.getElem?_eq_some_iff.1 HTR.out).1
    have t0 : wr.cell? ⟨w.heap.size + 1, 0, none⟩ = some (.func (.func 96) #[] #[]) := HTR.out.at 0
    have t1 : wr.cell? ⟨w.heap.size + 1, 1, none⟩ = some (.func (.func 97) #[] #[]) := HTR.out.at 1
    have t2 : wr.cell? ⟨w.heap.size + 1, 2, none⟩ = some (.func (.func 98) #[] #[]) := HTR.out.at 2
    have t3 : wr.cell? ⟨w.heap.size + 1, 3, none⟩ = some (.func (.func 99) #[] #[]) := HTR.out.at 3
    have t4 : wr.cell? ⟨w.heap.size + 1, 4, none⟩ = some (.func (.func 100) #[] #[]) := HTR.out.at 4
    have t5 : wr.cell? ⟨w.heap.size + 1, 5, none⟩ = some (.func (.func 101) #[] #[]) := HTR.out.at 5
    have t6 : wr.cell? ⟨w.heap.size + 1, 6, none⟩ = some (.func (.func 102) #[] #[]) := HTR.out.at 6
    have t7 : wr.cell? ⟨w.heap.size + 1, 7, none⟩ = some (.func (.func 103) #[] #[]) := HTR.out.at 7
    have hk4 : k = 0 ∨ k = 1 ∨ k = 2 ∨ k = 3 := by omega
    rcases hk4 with rfl | rfl | rfl | rfl
    · cases hfm : decide (Sc.hdW o es ∈ Sc.forms) with
      | true =>
        rw [hfm] at HF
        have hst := Sc.sty_form HWF.out (of_decide_eq_true hfm)
        have HLY := hide (fun w' (hf : Fw N x w w') (h' : Wk N x W l col w') => layForm_any N x W l col w' o p f ao es cap tail L C h' (by omega) (HV.out w' hf) ((HBK.out (Sc.pl2 es) (col + 2) (Or.inr rfl) (by rw [hst.1, hst.2])).base hf))
        clear hst
        go_wp2_with (first
          | (go_at_call 96; refine (HF.out _ (HFR.out.alloc HKR.out.n _)).mono ?_; rintro e w1 ⟨rfl, hb1⟩; have HK1 := hide ((HKR.out.new _).of hb1); have HF1 := hide ((HFR.out.alloc HKR.out.n _).trans (Fw.of hb1 (HKR.out.new _).n)); have HB1 := hide ((HBR.out.alloc _).be hb1); have sb1 := (hb1.cell (p := ⟨wr.heap.size, 1, none⟩) (by simp)).trans (show _ = some (Value.func (.func 97) #[] #[]) by simp); clear hb1 hl1 c0 c1 c2 c3 c4 c5; obtain ⟨hl1, c0, c1, c2, c3, c4, c5, -, -, -, -, -, -⟩ := HB1.out.at)
          | (go_at_call 97; refine (HLY.out _ HF1.out HK1.out).mono ?_; rintro e w2 ⟨rfl, hk2, hf2⟩))
        (try simp only [Exit.inBlock, Exit.then])
        refine bodyPost_ret (results_none rfl _ _ _) rfl ?_
        exact ⟨rfl, hk2, HF1.out.trans hf2⟩
      | false =>
        rw [hfm] at HF
        have HNX := hide (of_decide_eq_false hfm)
        go_wp2_with (go_at_call 96; refine (HF.out _ (HFR.out.alloc HKR.out.n _)).mono ?_; rintro e w1 ⟨rfl, hb1⟩; have HK1 := hide ((HKR.out.new _).of hb1); have HF1 := hide ((HFR.out.alloc HKR.out.n _).trans (Fw.of hb1 (HKR.out.new _).n)); have HB1 := hide ((HBR.out.alloc _).be hb1); have HT1 := hide ((HTR.out.new _).be hb1); clear hb1)
        go_roundw
        case rel => exact ⟨_, _, _, _, _, _, _, _, _, _, _, _, _, _, _, _, ⟨1, by omega, rfl, HK1, HF1, HB1, HT1, hide (fun _ => HNX.out), hide (fun h => absurd h (by omega)), hide (fun h => absurd h (by omega))⟩, rfl⟩
        case measure => simp [intOf]
    · cases hfm : decide (Sc.hdW o es ∈ Sc.blocks) with
      | true =>
        rw [hfm] at HBl
        have hst := Sc.sty_block HWF.out (HN1.out (by omega)) (of_decide_eq_true hfm)
        have HLY := hide (fun w' (hf : Fw N x w w') (h' : Wk N x W l col w') => layBlock_any N x W l col w' o p f ao es.length cap tail L C h' (by omega) ((HBK.out false (col + 2) (Or.inl (by rw [hst])) (by rw [hst])).base hf))
        clear hst
        go_wp2_with (first
          | (go_at_call 98; refine (HBl.out _ (HFR.out.alloc HKR.out.n _)).mono ?_; rintro e w1 ⟨rfl, hb1⟩; have HK1 := hide ((HKR.out.new _).of hb1); have HF1 := hide ((HFR.out.alloc HKR.out.n _).trans (Fw.of hb1 (HKR.out.new _).n)); have HB1 := hide ((HBR.out.alloc _).be hb1); have sb1 := (hb1.cell (p := ⟨wr.heap.size, 1, none⟩) (by simp)).trans (show _ = some (Value.func (.func 99) #[] #[]) by simp); clear hb1 hl1 c0 c1 c2 c3 c4 c5; obtain ⟨hl1, c0, c1, c2, c3, c4, c5, -, -, -, -, -, -⟩ := HB1.out.at)
          | (go_at_call 99; refine (HLY.out _ HF1.out HK1.out).mono ?_; rintro e w2 ⟨rfl, hk2, hf2⟩))
        (try simp only [Exit.inBlock, Exit.then])
        refine bodyPost_ret (results_none rfl _ _ _) rfl ?_
        exact ⟨rfl, hk2, HF1.out.trans hf2⟩
      | false =>
        rw [hfm] at HBl
        have HNX := hide (of_decide_eq_false hfm)
        go_wp2_with (go_at_call 98; refine (HBl.out _ (HFR.out.alloc HKR.out.n _)).mono ?_; rintro e w1 ⟨rfl, hb1⟩; have HK1 := hide ((HKR.out.new _).of hb1); have HF1 := hide ((HFR.out.alloc HKR.out.n _).trans (Fw.of hb1 (HKR.out.new _).n)); have HB1 := hide ((HBR.out.alloc _).be hb1); have HT1 := hide ((HTR.out.new _).be hb1); clear hb1)
        go_roundw
        case rel => exact ⟨_, _, _, _, _, _, _, _, _, _, _, _, _, _, _, _, ⟨2, by omega, rfl, HK1, HF1, HB1, HT1, hide (fun _ => HN1.out (by omega)), hide (fun h => HNX.out), hide (fun h => absurd h (by omega))⟩, rfl⟩
        case measure => simp [intOf]
    · cases hfm : Sc.isCl es with
      | true =>
        rw [hfm] at HCl
        obtain ⟨f0, e1, r1, hes, hst⟩ := Sc.sty_call HWF.out (HN1.out (by omega)) (HN2.out (by omega)) hfm
        have hf0 : f0.text.length ≤ 4096 := (HT.out f0 (by rw [hes]; simp [Sc.toksL, Sc.El.toks])).2.2.1
        have HLY := hide (fun w' (hf : Fw N x w w') (h' : Wk N x W l col w') => (by
          have hv' := HV.out w' hf
          have hb' := (HBK.out true (col + (o.text.length + f0.text.length + 1)) (Or.inl (by rw [hst])) (by rw [hst])).base hf
          subst hes
          exact layCall_any N x W l col w' o p f ao (.leaf f0) (e1 :: r1) cap tail L C h' (by omega) HOL.out hf0 hv' hb' : Calls Tryd.prog 101 #[.pointer (some ⟨x, 0, none⟩), .agg #[.int .i64 o.kind, .string ⟨o.text.toArray⟩, .int .i64 p, .bool o.behind, .slice ao es.length cap, .int .i64 f], .int .i64 tail] w' fun r w'' => r = .returned (.tuple #[]) ∧ Wk N x W L C w'' ∧ Fw N x w' w''))
        clear hst hf0 hes
        go_wp2_with (first
          | (go_at_call 100; refine (HCl.out _ (HFR.out.alloc HKR.out.n _)).mono ?_; rintro e w1 ⟨rfl, hb1⟩; have HK1 := hide ((HKR.out.new _).of hb1); have HF1 := hide ((HFR.out.alloc HKR.out.n _).trans (Fw.of hb1 (HKR.out.new _).n)); have HB1 := hide ((HBR.out.alloc _).be hb1); have sb1 := (hb1.cell (p := ⟨wr.heap.size, 1, none⟩) (by simp)).trans (show _ = some (Value.func (.func 101) #[] #[]) by simp); clear hb1 hl1 c0 c1 c2 c3 c4 c5; obtain ⟨hl1, c0, c1, c2, c3, c4, c5, -, -, -, -, -, -⟩ := HB1.out.at)
          | (go_at_call 101; refine (HLY.out _ HF1.out HK1.out).mono ?_; rintro e w2 ⟨rfl, hk2, hf2⟩))
        (try simp only [Exit.inBlock, Exit.then])
        refine bodyPost_ret (results_none rfl _ _ _) rfl ?_
        exact ⟨rfl, hk2, HF1.out.trans hf2⟩
      | false =>
        rw [hfm] at HCl
        have HNX := hide (hfm)
        go_wp2_with (go_at_call 100; refine (HCl.out _ (HFR.out.alloc HKR.out.n _)).mono ?_; rintro e w1 ⟨rfl, hb1⟩; have HK1 := hide ((HKR.out.new _).of hb1); have HF1 := hide ((HFR.out.alloc HKR.out.n _).trans (Fw.of hb1 (HKR.out.new _).n)); have HB1 := hide ((HBR.out.alloc _).be hb1); have HT1 := hide ((HTR.out.new _).be hb1); clear hb1)
        go_roundw
        case rel => exact ⟨_, _, _, _, _, _, _, _, _, _, _, _, _, _, _, _, ⟨3, by omega, rfl, HK1, HF1, HB1, HT1, hide (fun _ => HN1.out (by omega)), hide (fun _ => HN2.out (by omega)), hide (fun _ => by first | exact HNX.out | trivial)⟩, rfl⟩
        case measure => simp [intOf]
    · have hst := Sc.sty_rows HWF.out (HN1.out (by omega)) (HN2.out (by omega)) (HN3.out (by omega))
      have HLY := hide (fun w' (hf : Fw N x w w') (h' : Wk N x W l col w') => layRows_any N x W l col w' o p f ao es.length cap tail L C h' (by omega) HOL.out ((HBK.out false (col + o.text.length) (Or.inl (by rw [hst])) (by rw [hst])).base hf))
      clear hst
      go_wp2_with (first
        | (go_at_call 102; refine (isRows_any _ _ _ _ _ _ _).mono ?_; rintro e w1 ⟨rfl, rfl⟩)
        | (go_at_call 103; refine (HLY.out _ ((HFR.out.alloc HKR.out.n _).alloc (HKR.out.new _).n _) ((HKR.out.new _).new _)).mono ?_; rintro e w2 ⟨rfl, hk2, hf2⟩))
      (try simp only [Exit.inBlock, Exit.then])
      refine bodyPost_ret (results_none rfl _ _ _) rfl ?_
      exact ⟨rfl, hk2, ((HFR.out.alloc HKR.out.n _).alloc (HKR.out.new _).n _).trans hf2⟩
end Go.Proofs.YtoieklacpkahbaaDoor
