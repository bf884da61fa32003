/- Walks: the program's reader: elements. -/
import Derived.Test.YtoieklacpkahbaaDoorLayE
namespace Go.Proofs.YtoieklacpkahbaaDoor
open Go.RowKit
/-- What the tokens of an element are to be. -/
def TOk (T : List Sc.Tok) : Prop := (∀ t ∈ T, t.text.length ≤ 4096 ∧ (t.kind = 3 → t.text.length = 1)) ∧ Sc.wt T ≤ 100000
theorem TOk.left {a b : List Sc.Tok} (h : TOk (a ++ b)) : TOk a := ⟨fun t ht => h.1 t (List.mem_append_left _ ht), by have := h.2; rw [Sc.wt_app] at this; omega⟩
theorem TOk.right {a b : List Sc.Tok} (h : TOk (a ++ b)) : TOk b := ⟨fun t ht => h.1 t (List.mem_append_right _ ht), by have := h.2; rw [Sc.wt_app] at this; omega⟩
theorem flen_wt (e : Sc.El) (hw : e.WF) : e.flen ≤ Sc.wt e.toks := by
  unfold Sc.El.flen
  rw [← Sc.flS_all e hw]
  have := Sc.flS_len e.toks e.toks.length (Nat.le_refl _)
  rwa [List.take_length] at this
theorem fl_le (e : Sc.El) (hw : e.WF) (h : TOk e.toks) : e.fl ≤ 100000 := by
  have h1 := flen_wt e hw
  have h2 := h.2
  unfold Sc.El.fl
  split <;> omega
theorem TOk.mem : ∀ {es : List Sc.El} {e : Sc.El}, e ∈ es → TOk (Sc.toksL es) → TOk e.toks
  | [], _, h, _ => by simp at h
  | e' :: es, e, h, k => by
    rw [Sc.toksL] at k
    rcases List.mem_cons.1 h with rfl | h
    · exact k.left
    · exact TOk.mem h k.right
theorem WFL_mem : ∀ {es : List Sc.El} {e : Sc.El}, e ∈ es → Sc.WFL es → e.WF
  | [], _, h, _ => by simp at h
  | e' :: es, e, h, k => by
    simp only [Sc.WFL] at k
    rcases List.mem_cons.1 h with rfl | h
    · exact k.1
    · exact WFL_mem h k.2

/-- An element's block. -/
structure Six (R : Nat) (a b c d e f : Value) (w : World) : Prop where
  lt : R < w.heap.size
  c0 : w.cell? ⟨R, 0, none⟩ = some a
  c1 : w.cell? ⟨R, 1, none⟩ = some b
  c2 : w.cell? ⟨R, 2, none⟩ = some c
  c3 : w.cell? ⟨R, 3, none⟩ = some d
  c4 : w.cell? ⟨R, 4, none⟩ = some e
  c5 : w.cell? ⟨R, 5, none⟩ = some f
  f0 : w.frozen? ⟨R, 0, none⟩ = false
  f1 : w.frozen? ⟨R, 1, none⟩ = false
  f2 : w.frozen? ⟨R, 2, none⟩ = false
  f3 : w.frozen? ⟨R, 3, none⟩ = false
  f4 : w.frozen? ⟨R, 4, none⟩ = false
  f5 : w.frozen? ⟨R, 5, none⟩ = false
def SixB (R : Nat) (a b c d e f : Value) (w : World) : Prop := w.heap[R]? = some (.cells #[a, b, c, d, e, f] 85 (0, 0))
theorem SixB.at {R : Nat} {a b c d e f : Value} {w : World} (h : SixB R a b c d e f w) : Six R a b c d e f w :=
  ⟨(Array.getElem?_eq_some_iff.1 h).1, by rw [Lib.cell_of_heap h]; rfl, by rw [Lib.cell_of_heap h]; rfl, by rw [Lib.cell_of_heap h]; rfl, by rw [Lib.cell_of_heap h]; rfl, by rw [Lib.cell_of_heap h]; rfl, by rw [Lib.cell_of_heap h]; rfl, Lib.frozen_of_heap h 0, Lib.frozen_of_heap h 1, Lib.frozen_of_heap h 2, Lib.frozen_of_heap h 3, Lib.frozen_of_heap h 4, Lib.frozen_of_heap h 5⟩
theorem SixB.new (w : World) (a b c d e f : Value) : SixB w.heap.size a b c d e f (w.alloc (.cells #[a, b, c, d, e, f] 85)) := heap_alloc_new w _
theorem SixB.fr {R : Nat} {a b c d e f : Value} {w w' : World} {x : Nat} (h : SixB R a b c d e f w) (hf : Fr w.heap.size x w w') (hx : R ≠ x) : SixB R a b c d e f w' := (hf.block R (Array.getElem?_eq_some_iff.1 h).1 hx).trans h
theorem SixB.be {R : Nat} {a b c d e f : Value} {w w' : World} (h : SixB R a b c d e f w) (hf : Below w.heap.size w w') : SixB R a b c d e f w' := (hf.block R (Array.getElem?_eq_some_iff.1 h).1).trans h
theorem SixB.alloc {R : Nat} {a b c d e f : Value} {w : World} (h : SixB R a b c d e f w) (o : Obj) : SixB R a b c d e f (w.alloc o) := (Lib.alloc_old _ _ _ (Array.getElem?_eq_some_iff.1 h).1).trans h
theorem SixB.put {R : Nat} {a b c d e f : Value} {w : World} (h : SixB R a b c d e f w) {p : Addr} (hp : R ≠ p.block) (u : Value) : SixB R a b c d e f (w.setCell p u) := (Below.heap_setCell w _ u R hp).trans h
theorem SixB.set4 {R : Nat} {a b c d e f : Value} {w : World} (h : SixB R a b c d e f w) (u : Value) : SixB R a b c d u f (w.setCell ⟨R, 4, none⟩ u) := by
  unfold SixB at *; simp [World.setCell, Array.getElem?_modify, h]
theorem Fr.put {N x : Nat} {a w : World} (h : Fr N x a w) {p : Addr} (hp : N ≤ p.block) (u : Value) : Fr N x a (w.setCell p u) :=
  ⟨h.os, h.tape, h.output, by simpa [World.setCell] using h.size, fun k hk hx => (Below.heap_setCell w _ u k (by omega)).trans (h.block k hk hx)⟩
theorem RdAt.put {rb g i n cap : Nat} {w : World} (h : RdAt rb g i n cap w) {p : Addr} (hp : rb ≠ p.block) (u : Value) : RdAt rb g i n cap (w.setCell p u) := h.of (Below.heap_setCell w _ u rb hp)
theorem RdAt.new {rb g i n cap : Nat} {w : World} (h : RdAt rb g i n cap w) (o : Obj) : RdAt rb g i n cap (w.alloc o) := by
  obtain ⟨ao, c, h1, h2⟩ := h
  exact ⟨ao, c, (Lib.alloc_old _ _ _ (Array.getElem?_eq_some_iff.1 h1).1).trans h1, h2⟩

set_option maxRecDepth 100000 in
set_option maxHeartbeats 4000000 in
theorem element_leaf (t : Sc.Tok) (hw : (Sc.El.leaf t).WF) (hT : TOk (Sc.El.leaf t).toks) : ReadC (.leaf t) := by
  intro rb g i ts cap B0 w rest h hr hne hn htk
  have hrl : rb < w.heap.size := by obtain ⟨ao, c, h1, _⟩ := hr; exact (Array.getElem?_eq_some_iff.1 h1).1
  rw [Sc.El.toks, List.singleton_append] at htk
  obtain ⟨hi', hk1, hk2, hk3, -⟩ := Sc.tok_at htk
  have htl := (hT.1 t (by simp [Sc.El.toks])).1
  have hkk : t.kind = 1 ∨ t.kind = 5 := hw
  have HN := hide (fun w' (hb : Below w.heap.size w w') => next_any rb g i ts cap B0 w' (h.below hb) (hr.fr hb) hi')
  rw [hk1, hk2, hk3] at HN
  have HF := hide (fun (p : Int) w' => flatLength_any t p 0 (.slice none 0 0) [] (fun _ => True) w' (.inl ⟨rfl, rfl, by simp [ElsAt]⟩) (by simp) (by simp) htl)
  rw [← Sc.fl_leaf t _ (by omega)] at HF
  clear hk1 hk2 hk3 htk h hr
  generalize ts[i].place = pp at HN
  have HRES := hide (show ∀ w', ElAt (fun k => w.heap.size ≤ k) w' (.leaf t) (hd t pp (.slice none 0 0) (Sc.El.leaf t).fl) from fun w' => by simp only [ElAt]; exact ⟨pp, rfl⟩)
  show Calls _ _ _ _ (fun r w' => ∃ p ao n c, r = .returned (.agg #[.int .i64 t.kind, .string ⟨t.text.toArray⟩, .int .i64 p, .bool t.behind, .slice ao n c, .int .i64 (Sc.El.leaf t).fl]) ∧
    ElAt (fun k => w.heap.size ≤ k) w' (.leaf t) (hd t p (.slice ao n c) (Sc.El.leaf t).fl) ∧ RdAt rb g (i + 1) ts.length cap w' ∧ Fr w.heap.size rb w w')
  generalize (Sc.El.leaf t).fl = fl at *
  generalize (⟨t.text.toArray⟩ : ByteArray) = tt at *
  generalize t.behind = bb at *
  have k2 : (t.kind == 2) = false := beq_eq_false_iff_ne.2 (by omega)
  have k4 : (t.kind == 4) = false := beq_eq_false_iff_ne.2 (by omega)
  generalize t.kind = kk at *
  go_enter Tryd.func62, Tryd.ntmps62
  go_wp2_with (first
    | (go_at_call 79; refine (HN.out _ ((Below.refl _ _).alloc (Nat.le_refl _) _)).mono ?_; rintro e w1 ⟨rfl, hR1, hF1⟩; have HB := hide ((SixB.new w _ _ _ _ _ _).fr hF1 (by omega)); obtain ⟨hl, c0, c1, c2, c3, c4, c5, f0, f1, f2, f3, f4, f5⟩ := HB.out.at; have HFR := hide ((((Fr.refl w.heap.size rb w).alloc (Nat.le_refl _) _).trans (hF1.mono (by simp)))); have HR1 := hide hR1; clear hF1 hR1)
    | (go_at_call 80; refine (HF.out _ _).mono ?_; rintro e w2 ⟨rfl, hb2⟩; obtain ⟨gl, d0, d1, d2, d3, d4, d5, g0, g1, g2, g3, g4, g5⟩ := ((HB.out.alloc _).be hb2).at; obtain ⟨kl, e0, e1, e2, e3, e4, e5, k0, k1, k2, k3, k4, k5⟩ := ((SixB.new w1 _ _ _ _ _ _).be hb2).at; have HR2 := hide ((HR1.out.new _).fr hb2); have HF2 := hide ((HFR.out.alloc (by have := HFR.out.size; omega) _).trans (Fr.of (hb2.mono (by have := HFR.out.size; simp; omega)))); clear hb2))
  refine bodyPost_ret (v := .agg #[.int .i64 kk, .string tt, .int .i64 pp, .bool bb, .slice none 0 0, .int .i64 fl]) (by simp [results, Tryd.results62, go_sem, d0, d1, d2, d3, d4, d5]) rfl ⟨pp, none, 0, 0, rfl, HRES.out _, ?_, ?_⟩
  · iterate 7 refine RdAt.put ?_ (by dsimp only; omega) _
    exact HR2.out
  · iterate 7 refine Fr.put ?_ (by dsimp only; omega) _
    exact HF2.out

set_option maxRecDepth 100000 in
set_option maxHeartbeats 4000000 in
theorem element_lst (o c : Sc.Tok) (es : List Sc.El) (hw : (Sc.El.lst o es c).WF) (hT : TOk (Sc.El.lst o es c).toks) (hC : ReadsC es) : ReadC (.lst o es c) := by
  intro rb g i ts cap B0 w rest h hr hne hn htk
  have hrl : rb < w.heap.size := by obtain ⟨ao, c, h1, _⟩ := hr; exact (Array.getElem?_eq_some_iff.1 h1).1
  have hgl : g < w.heap.size := by
    rcases h.2 with ⟨hn, _⟩ | ⟨g', cap', cur, e1, hB, hgg, _⟩
    · cases hn
    · injection e1 with e1; injection e1 with e1; injection e1 with e1 _ _; subst e1; exact (Array.getElem?_eq_some_iff.1 hgg).1
  obtain ⟨hw1, hw2, hw3⟩ : o.kind = 2 ∧ c.kind = 3 ∧ Sc.WFL es := hw
  rw [Sc.El.toks, List.cons_append] at htk
  obtain ⟨hi', hk1, hk2, hk3, htk1⟩ := Sc.tok_at htk
  rw [List.append_assoc] at htk1
  have htk2 := Sc.tok_next htk1
  rw [List.singleton_append] at htk2
  obtain ⟨hi2, -, -, -, -⟩ := Sc.tok_at htk2
  have hol := (hT.1 o (by simp [Sc.El.toks])).1
  have hcl := (hT.1 c (by simp [Sc.El.toks])).2 hw2
  have hTes : TOk (Sc.toksL es) := by
    have : TOk ([o] ++ (Sc.toksL es ++ [c])) := by simpa [Sc.El.toks] using hT
    exact this.right.left
  have hke : es.length ≤ 4096 := by
    have h1 := toksL_len es
    have h2 := congrArg List.length htk1
    rw [List.length_map, List.length_drop, List.length_append] at h2
    omega
  have hfl := Sc.fl_lst o c es hw1 hw2 hcl
  have HF := hide (fun (A : Nat → Prop) (p : Int) v w' (hv : RowV A w' es.length v (ElsAt A w' es)) => flatLength_any o p 0 v es A w' hv hke (fun e he => fl_le e (WFL_mem he hw3) (TOk.mem he hTes)) hol)
  rw [← hfl] at HF
  have HN := hide (fun w' (hb : Below w.heap.size w w') => next_any rb g i ts cap B0 w' (h.below hb) (hr.fr hb) hi')
  have HE := hide (fun w' (hb : Fr w.heap.size rb w w') (hR : RdAt rb g (i + 1) ts.length cap w') => hC rb g (i + 1) ts cap B0 w' _ (h.fr hb hgl hne) hR hne hn htk1 (fun c' r' he => by cases he; exact hw2))
  have HN2 := hide (fun w' (hb : Fr w.heap.size rb w w') (hR : RdAt rb g (i + 1 + (Sc.toksL es).length) ts.length cap w') => next_any rb g (i + 1 + (Sc.toksL es).length) ts cap B0 w' (h.fr hb hgl hne) hR hi2)
  rw [hk1, hk2, hk3] at HN
  rw [hw1] at HN HF
  clear hk1 hk2 hk3 htk htk1 htk2 h hr hfl hTes hC
  generalize ts[i].place = pp at HN
  generalize ts[i + 1 + (Sc.toksL es).length].place = p2 at HN2
  generalize ts[i + 1 + (Sc.toksL es).length].kind = q2 at HN2
  generalize (⟨ts[i + 1 + (Sc.toksL es).length].text.toArray⟩ : ByteArray) = t2 at HN2
  generalize ts[i + 1 + (Sc.toksL es).length].behind = b2 at HN2
  have HRES := hide (show ∀ w' v, RowV (fun k => w.heap.size ≤ k) w' es.length v (ElsAt (fun k => w.heap.size ≤ k) w' es) → ElAt (fun k => w.heap.size ≤ k) w' (.lst o es c) (hd o pp v (Sc.El.lst o es c).fl) from fun w' v hv => by simp only [ElAt]; exact ⟨pp, v, rfl, hv⟩)
  have hle : i + (Sc.El.lst o es c).toks.length = i + 1 + (Sc.toksL es).length + 1 := by simp [Sc.El.toks]; omega
  rw [hle]
  clear hle
  show Calls _ _ _ _ (fun r w' => ∃ p ao n c', r = .returned (.agg #[.int .i64 o.kind, .string ⟨o.text.toArray⟩, .int .i64 p, .bool o.behind, .slice ao n c', .int .i64 (Sc.El.lst o es c).fl]) ∧
    ElAt (fun k => w.heap.size ≤ k) w' (.lst o es c) (hd o p (.slice ao n c') (Sc.El.lst o es c).fl) ∧ RdAt rb g (i + 1 + (Sc.toksL es).length + 1) ts.length cap w' ∧ Fr w.heap.size rb w w')
  rw [hw1]
  generalize (Sc.El.lst o es c).fl = fl at *
  generalize (⟨o.text.toArray⟩ : ByteArray) = tt at *
  generalize o.behind = bb at *
  go_enter Tryd.func62, Tryd.ntmps62
  go_wp2_with (go_at_call 79; refine (HN.out _ ((Below.refl _ _).alloc (Nat.le_refl _) _)).mono ?_; rintro e w1 ⟨rfl, hR1, hF1⟩; have HB := hide ((SixB.new w _ _ _ _ _ _).fr hF1 (by omega)); obtain ⟨hl, c0, c1, c2, c3, c4, c5, f0, f1, f2, f3, f4, f5⟩ := HB.out.at; have HFR := hide ((((Fr.refl w.heap.size rb w).alloc (Nat.le_refl _) _).trans (hF1.mono (by simp)))); have HR1 := hide hR1; clear hF1 hR1; clear HN)
  refine (HE.out _ (HFR.out.alloc (by omega) _) (HR1.out.new _)).mono ?_
  rintro e w2 ⟨v, rfl, hv, hR2, hF2⟩
  obtain ⟨va, vc, rfl, -⟩ := hv.shape
  have HV := hide hv
  have HFR2 := hide ((HFR.out.alloc (by omega) _).trans (hF2.mono (by simp; omega)))
  have HB2 := hide ((HB.out.alloc _).fr hF2 (by omega))
  have HB2' := hide ((SixB.new w1 _ _ _ _ _ _).fr hF2 (by omega))
  have hs2 := hF2.size
  obtain ⟨gl, d0, d1, d2, d3, d4, d5, g0, g1, g2, g3, g4, g5⟩ := HB2'.out.at
  have HR2 := hide hR2
  clear hv hR2 hF2 HE HR1 HFR HB c0 c1 c2 c3 c4 c5 f0 f1 f2 f3 f4 f5
  go_wp2_with (go_at_call 79; refine (HN2.out _ (HFR2.out.put (by dsimp only; omega) _) (HR2.out.put (by dsimp only; omega) _)).mono ?_; rintro e w3 ⟨rfl, hR3, hF3⟩; have hs3 := hF3.size; have HB3 := hide ((HB2.out.put (by dsimp only; omega) _).fr hF3 (by omega)); have HB3' := hide ((HB2'.out.set4 _).fr hF3 (by omega)); have HV3 := hide (HV.out.mono (A' := fun k => w1.heap.size < k) (w' := w3) (Q' := ElsAt (fun k => w1.heap.size < k) w3 es) (fun k hk hk2 => ⟨by simp at hk; omega, (hF3.block k (by simpa [World.setCell] using hk2) (by simp at hk; omega)).trans (Below.heap_setCell _ _ _ _ (by simp at hk; dsimp only; omega))⟩) (fun cs hcs => ElsAt.mono (fun k hk hk2 => ⟨by simp at hk; omega, (hF3.block k (by simpa [World.setCell] using hk2) (by simp at hk; omega)).trans (Below.heap_setCell _ _ _ _ (by simp at hk; dsimp only; omega))⟩) _ _ hcs)); have HFR3 := hide ((HFR2.out.put (p := ⟨w1.heap.size, 4, none⟩) (by dsimp only; omega) (.slice va es.length vc)).trans (hF3.mono (by simp [World.setCell]; simp at hs2; omega))); have HR3 := hide hR3; clear hR3 hF3 HN2 HR2 HFR2 HV HB2 HB2' gl d0 d1 d2 d3 d4 d5 g0 g1 g2 g3 g4 g5; obtain ⟨gl, d0, d1, d2, d3, d4, d5, g0, g1, g2, g3, g4, g5⟩ := HB3'.out.at)
  refine (HF.out _ _ _ _ HV3.out).mono ?_
  rintro e w4 ⟨rfl, hb4⟩
  have hs4 := hb4.size
  have HV4 := hide (HV3.out.mono (A' := fun k => w1.heap.size < k) (w' := w4) (Q' := ElsAt (fun k => w1.heap.size < k) w4 es) (fun k hk hk2 => ⟨hk, hb4.block k hk2⟩) (fun cs hcs => ElsAt.mono (fun k hk hk2 => ⟨hk, hb4.block k hk2⟩) _ _ hcs))
  have HFR4 := hide (HFR3.out.trans (Fr.of (hb4.mono (Nat.le_trans HFR3.out.size (Nat.le_refl _)))))
  have HR4 := hide (HR3.out.fr hb4)
  have HB4 := hide (HB3.out.be hb4)
  have HB4' := hide (HB3'.out.be hb4)
  clear gl d0 d1 d2 d3 d4 d5 g0 g1 g2 g3 g4 g5 hb4 HV3 HFR3 HR3 HB3 HB3'
  obtain ⟨gl, d0, d1, d2, d3, d4, d5, g0, g1, g2, g3, g4, g5⟩ := HB4'.out.at
  obtain ⟨kl, e0, e1, e2, e3, e4, e5, k0, k1, k2, k3, k4, k5⟩ := HB4.out.at
  go_wp2
  refine bodyPost_ret (v := .agg #[.int .i64 2, .string tt, .int .i64 pp, .bool bb, .slice va es.length vc, .int .i64 fl]) (by simp [results, Tryd.results62, go_sem, e0, e1, e2, e3, e4, e5]) rfl ⟨pp, va, es.length, vc, rfl, HRES.out _ _ ?_, ?_, ?_⟩
  · have hk7 : ∀ k, w1.heap.size < k → (((((((w4.setCell ⟨w1.heap.size, 5, none⟩ (.int .i64 fl)).setCell ⟨w.heap.size, 0, none⟩ (.int .i64 2)).setCell ⟨w.heap.size, 1, none⟩ (.string tt)).setCell ⟨w.heap.size, 2, none⟩ (.int .i64 pp)).setCell ⟨w.heap.size, 3, none⟩ (.bool bb)).setCell ⟨w.heap.size, 4, none⟩ (.slice va es.length vc)).setCell ⟨w.heap.size, 5, none⟩ (.int .i64 fl)).heap[k]? = w4.heap[k]? := by
      intro k hk
      iterate 7 rw [Below.heap_setCell _ _ _ _ (by dsimp only; omega)]
    exact HV4.out.mono (fun k hk _ => ⟨by omega, hk7 k hk⟩) (fun cs hcs => ElsAt.mono (fun k hk _ => ⟨by omega, hk7 k hk⟩) _ _ hcs)
  · iterate 7 refine RdAt.put ?_ (by dsimp only; omega) _
    exact HR4.out
  · iterate 7 refine Fr.put ?_ (by dsimp only; omega) _
    exact HFR4.out

set_option maxRecDepth 100000 in
set_option maxHeartbeats 4000000 in
theorem element_pre (t : Sc.Tok) (e : Sc.El) (hw : (Sc.El.pre t e).WF) (hT : TOk (Sc.El.pre t e).toks) (hC : ReadC e) : ReadC (.pre t e) := by
  intro rb g i ts cap B0 w rest h hr hne hn htk
  have hrl : rb < w.heap.size := by obtain ⟨ao, c, h1, _⟩ := hr; exact (Array.getElem?_eq_some_iff.1 h1).1
  have hgl : g < w.heap.size := by
    rcases h.2 with ⟨hn, _⟩ | ⟨g', cap', cur, e1, hB, hgg, _⟩
    · cases hn
    · injection e1 with e1; injection e1 with e1; injection e1 with e1 _ _; subst e1; exact (Array.getElem?_eq_some_iff.1 hgg).1
  obtain ⟨hw1, hw2, hw3⟩ : t.kind = 4 ∧ Sc.leadsB t e.first = true ∧ e.WF := hw
  rw [Sc.El.toks, List.cons_append] at htk
  obtain ⟨hi', hk1, hk2, hk3, htk1⟩ := Sc.tok_at htk
  have hol := (hT.1 t (by simp [Sc.El.toks])).1
  have hTe : TOk e.toks := by
    have : TOk ([t] ++ e.toks) := by simpa [Sc.El.toks] using hT
    exact this.right
  have hfl := Sc.fl_pre t e (max 1 ([e].length : Int)) hw1
  have HF := hide (fun (A : Nat → Prop) (p : Int) v w' (hv : RowV A w' [e].length v (ElsAt A w' [e])) => flatLength_any t p 0 v [e] A w' hv (by simp) (fun e' he => by
    obtain rfl : e' = e := by simpa using he
    exact fl_le e' hw3 hTe) hol)
  rw [← hfl] at HF
  have HN := hide (fun w' (hb : Below w.heap.size w w') => next_any rb g i ts cap B0 w' (h.below hb) (hr.fr hb) hi')
  have HE := hide (fun w' (hb : Fr w.heap.size rb w w') (hR : RdAt rb g (i + 1) ts.length cap w') => hC rb g (i + 1) ts cap B0 w' _ (h.fr hb hgl hne) hR hne hn htk1)
  rw [hk1, hk2, hk3] at HN
  rw [hw1] at HN HF
  clear hk1 hk2 hk3 htk htk1 h hr hfl hTe hC
  generalize ts[i].place = pp at HN
  have HRES := hide (show ∀ w' v, RowV (fun k => w.heap.size ≤ k) w' [e].length v (ElsAt (fun k => w.heap.size ≤ k) w' [e]) → ElAt (fun k => w.heap.size ≤ k) w' (.pre t e) (hd t pp v (Sc.El.pre t e).fl) from fun w' v hv => by
    simp only [ElAt]
    refine ⟨pp, v, rfl, hv.mono (fun k hk _ => ⟨hk, rfl⟩) (fun cs hcs => ?_)⟩
    simp only [ElsAt] at hcs
    obtain ⟨c1, c2, rfl, h1, rfl⟩ := hcs
    rwa [List.append_nil])
  have hle : i + (Sc.El.pre t e).toks.length = i + 1 + e.toks.length := by simp [Sc.El.toks]; omega
  rw [hle]
  clear hle
  show Calls _ _ _ _ (fun r w' => ∃ p ao n c', r = .returned (.agg #[.int .i64 t.kind, .string ⟨t.text.toArray⟩, .int .i64 p, .bool t.behind, .slice ao n c', .int .i64 (Sc.El.pre t e).fl]) ∧
    ElAt (fun k => w.heap.size ≤ k) w' (.pre t e) (hd t p (.slice ao n c') (Sc.El.pre t e).fl) ∧ RdAt rb g (i + 1 + e.toks.length) ts.length cap w' ∧ Fr w.heap.size rb w w')
  rw [hw1]
  generalize (Sc.El.pre t e).fl = fl at *
  generalize (⟨t.text.toArray⟩ : ByteArray) = tt at *
  generalize t.behind = bb at *
  go_enter Tryd.func62, Tryd.ntmps62
  go_wp2_with (go_at_call 79; refine (HN.out _ ((Below.refl _ _).alloc (Nat.le_refl _) _)).mono ?_; rintro e w1 ⟨rfl, hR1, hF1⟩; have HB := hide ((SixB.new w _ _ _ _ _ _).fr hF1 (by omega)); obtain ⟨hl, c0, c1, c2, c3, c4, c5, f0, f1, f2, f3, f4, f5⟩ := HB.out.at; have HFR := hide ((((Fr.refl w.heap.size rb w).alloc (Nat.le_refl _) _).trans (hF1.mono (by simp)))); have HR1 := hide hR1; clear hF1 hR1; clear HN)
  refine (HE.out _ (HFR.out.alloc (by omega) _) (HR1.out.new _)).mono ?_
  rintro r w2 ⟨p2, ao2, n2, cc2, rfl, hv, hR2, hF2⟩
  have HV := hide hv
  have HFR2 := hide ((HFR.out.alloc (by omega) _).trans (hF2.mono (by simp; omega)))
  have HB2 := hide ((HB.out.alloc _).fr hF2 (by omega))
  have HB2' := hide ((SixB.new w1 _ _ _ _ _ _).fr hF2 (by omega))
  have hs2 := hF2.size
  obtain ⟨gl, d0, d1, d2, d3, d4, d5, g0, g1, g2, g3, g4, g5⟩ := HB2'.out.at
  have HR2 := hide hR2
  clear hv hR2 hF2 HE HR1 HFR HB c0 c1 c2 c3 c4 c5 f0 f1 f2 f3 f4 f5
  go_wp2_with (fail)
  obtain ⟨w3, hw3⟩ : ∃ w3, w3 = ((w2.setCell ⟨w1.heap.size, 4, none⟩ (.slice (some ⟨w2.heap.size, 0, none⟩) 1 1)).alloc (.cells #[.int .i64 e.first.kind, .string ⟨e.first.text.toArray⟩, .int .i64 p2, .bool e.first.behind, .slice ao2 n2 cc2, .int .i64 e.fl] 85)) := ⟨_, rfl⟩
  rw [← hw3]
  have hsc : (w2.setCell ⟨w1.heap.size, 4, none⟩ (.slice (some ⟨w2.heap.size, 0, none⟩) 1 1)).heap.size = w2.heap.size := by simp [World.setCell]
  have hs3 : w3.heap.size = w2.heap.size + 1 := by rw [hw3]; simp [World.setCell]
  have hkeep : ∀ k, k < w2.heap.size → k ≠ w1.heap.size → w3.heap[k]? = w2.heap[k]? := by
    intro k hk hk2
    rw [hw3, Lib.alloc_old _ _ _ (by omega), Below.heap_setCell _ _ _ _ (by dsimp only; omega)]
  have hnew : w3.heap[w2.heap.size]? = some (.cells #[.int .i64 e.first.kind, .string ⟨e.first.text.toArray⟩, .int .i64 p2, .bool e.first.behind, .slice ao2 n2 cc2, .int .i64 e.fl] 85 (0, 0)) := by
    have := heap_alloc_new (w2.setCell ⟨w1.heap.size, 4, none⟩ (.slice (some ⟨w2.heap.size, 0, none⟩) 1 1)) (.cells #[.int .i64 e.first.kind, .string ⟨e.first.text.toArray⟩, .int .i64 p2, .bool e.first.behind, .slice ao2 n2 cc2, .int .i64 e.fl] 85)
    rw [hsc] at this
    rw [hw3]; exact this
  have hpe : ElAt (fun k => w1.heap.size < k) w3 e (hd e.first p2 (.slice ao2 n2 cc2) e.fl) := ElAt.mono (fun k hk hk2 => ⟨by simp at hk; omega, hkeep k hk2 (by simp at hk; omega)⟩) _ _ HV.out
  have HV3 : Hid (RowV (fun k => w1.heap.size < k) w3 [e].length (.slice (some ⟨w2.heap.size, 0, none⟩) 1 1) (ElsAt (fun k => w1.heap.size < k) w3 [e])) :=
    hide (.inr ⟨w2.heap.size, 1, _, rfl, gl, hnew, by simp, by unfold maxLen; omega, by simp, by simp only [ElsAt]; exact ⟨_, [], by rw [List.append_nil]; rfl, hpe, rfl⟩⟩)
  have HB3 : Hid _ := hide ((HB2.out.put (p := ⟨w1.heap.size, 4, none⟩) (by dsimp only; omega) (.slice (some ⟨w2.heap.size, 0, none⟩) 1 1)).alloc (.cells #[.int .i64 e.first.kind, .string ⟨e.first.text.toArray⟩, .int .i64 p2, .bool e.first.behind, .slice ao2 n2 cc2, .int .i64 e.fl] 85))
  have HB3' : Hid _ := hide ((HB2'.out.set4 (.slice (some ⟨w2.heap.size, 0, none⟩) 1 1)).alloc (.cells #[.int .i64 e.first.kind, .string ⟨e.first.text.toArray⟩, .int .i64 p2, .bool e.first.behind, .slice ao2 n2 cc2, .int .i64 e.fl] 85))
  have HFR3 : Hid _ := hide ((HFR2.out.put (p := ⟨w1.heap.size, 4, none⟩) (by dsimp only; omega) (.slice (some ⟨w2.heap.size, 0, none⟩) 1 1)).alloc (by omega) (.cells #[.int .i64 e.first.kind, .string ⟨e.first.text.toArray⟩, .int .i64 p2, .bool e.first.behind, .slice ao2 n2 cc2, .int .i64 e.fl] 85))
  have HR3 : Hid _ := hide ((HR2.out.put (p := ⟨w1.heap.size, 4, none⟩) (by dsimp only; omega) (.slice (some ⟨w2.heap.size, 0, none⟩) 1 1)).new (.cells #[.int .i64 e.first.kind, .string ⟨e.first.text.toArray⟩, .int .i64 p2, .bool e.first.behind, .slice ao2 n2 cc2, .int .i64 e.fl] 85))
  rw [← hw3] at HB3 HB3' HFR3 HR3
  clear hw3 hkeep hnew hpe HB2 HB2' HFR2 HR2 HV gl d0 d1 d2 d3 d4 d5 g0 g1 g2 g3 g4 g5
  obtain ⟨va, hva⟩ : ∃ va, va = some (⟨w2.heap.size, 0, none⟩ : Addr) := ⟨_, rfl⟩
  rw [← hva] at HV3 HB3' ⊢
  clear hva
  obtain ⟨gl, d0, d1, d2, d3, d4, d5, g0, g1, g2, g3, g4, g5⟩ := HB3'.out.at
  refine (HF.out _ _ _ _ HV3.out).mono ?_
  rintro r w4 ⟨rfl, hb4⟩
  have hs4 := hb4.size
  have HV4 := hide (HV3.out.mono (A' := fun k => w1.heap.size < k) (w' := w4) (Q' := ElsAt (fun k => w1.heap.size < k) w4 [e]) (fun k hk hk2 => ⟨hk, hb4.block k hk2⟩) (fun cs hcs => ElsAt.mono (fun k hk hk2 => ⟨hk, hb4.block k hk2⟩) _ _ hcs))
  have HFR4 := hide (HFR3.out.trans (Fr.of (hb4.mono (Nat.le_trans HFR3.out.size (Nat.le_refl _)))))
  have HR4 := hide (HR3.out.fr hb4)
  have HB4 := hide (HB3.out.be hb4)
  have HB4' := hide (HB3'.out.be hb4)
  clear gl d0 d1 d2 d3 d4 d5 g0 g1 g2 g3 g4 g5 hb4 HV3 HFR3 HR3 HB3 HB3'
  obtain ⟨gl, d0, d1, d2, d3, d4, d5, g0, g1, g2, g3, g4, g5⟩ := HB4'.out.at
  obtain ⟨kl, e0, e1, e2, e3, e4, e5, k0, k1, k2, k3, k4, k5⟩ := HB4.out.at
  go_wp2
  refine bodyPost_ret (v := .agg #[.int .i64 4, .string tt, .int .i64 pp, .bool bb, .slice va 1 1, .int .i64 fl]) (by simp [results, Tryd.results62, go_sem, e0, e1, e2, e3, e4, e5]) rfl ⟨pp, va, 1, 1, rfl, HRES.out _ _ ?_, ?_, ?_⟩
  · have hk7 : ∀ k, w1.heap.size < k → (((((((w4.setCell ⟨w1.heap.size, 5, none⟩ (.int .i64 fl)).setCell ⟨w.heap.size, 0, none⟩ (.int .i64 4)).setCell ⟨w.heap.size, 1, none⟩ (.string tt)).setCell ⟨w.heap.size, 2, none⟩ (.int .i64 pp)).setCell ⟨w.heap.size, 3, none⟩ (.bool bb)).setCell ⟨w.heap.size, 4, none⟩ (.slice va 1 1)).setCell ⟨w.heap.size, 5, none⟩ (.int .i64 fl)).heap[k]? = w4.heap[k]? := by
      intro k hk
      iterate 7 rw [Below.heap_setCell _ _ _ _ (by dsimp only; omega)]
    exact HV4.out.mono (fun k hk _ => ⟨by omega, hk7 k hk⟩) (fun cs hcs => ElsAt.mono (fun k hk _ => ⟨by omega, hk7 k hk⟩) _ _ hcs)
  · iterate 7 refine RdAt.put ?_ (by dsimp only; omega) _
    exact HR4.out
  · iterate 7 refine Fr.put ?_ (by dsimp only; omega) _
    exact HFR4.out

mutual
/-- The program reads every element. -/
theorem read_any : ∀ (e : Sc.El), e.WF → TOk e.toks → ReadC e
  | .leaf t, hw, hT => element_leaf t hw hT
  | .pre t e, hw, hT => element_pre t e hw hT (read_any e hw.2.2 (by
      have : TOk ([t] ++ e.toks) := by simpa [Sc.El.toks] using hT
      exact this.right))
  | .lst o es c, hw, hT => element_lst o c es hw hT (elements_any es (reads_any es hw.2.2 (by
      have : TOk ([o] ++ (Sc.toksL es ++ [c])) := by simpa [Sc.El.toks] using hT
      exact this.right.left)) hw.2.2)
theorem reads_any : ∀ (es : List Sc.El), Sc.WFL es → TOk (Sc.toksL es) → ∀ e ∈ es, ReadC e
  | [], _, _, _, h => absurd h List.not_mem_nil
  | e :: es, hw, hT, e', h => by
    have h1 := read_any e hw.1 (by rw [Sc.toksL] at hT; exact hT.left)
    have h2 := reads_any es hw.2 (by rw [Sc.toksL] at hT; exact hT.right)
    rcases List.mem_cons.1 h with rfl | h
    · exact h1
    · exact h2 e' h
end
end Go.Proofs.YtoieklacpkahbaaDoor
