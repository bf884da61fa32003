/- Walks: the second layout's element. -/
/- Walks: the second layout's element. -/
/- Walks: the second layout's style and element, linked to elements. -/
/- Walks: the second layout's element at a list. -/
import Derived.Test.YtoieklacpkahbaaGreatDoorWalkQ
import Derived.Test.YtoieklacpkahbaaGreatDoorLayP
namespace Go.Proofs.YtoieklacpkahbaaGreatDoor
open Go.RowKit

set_option maxRecDepth 20000 in
set_option maxHeartbeats 1000000 in
theorem elem_comment (W : Nat) (t : Sc.Tok) (hw : (Sc.El.leaf t).WF) (ao : Option Addr) (cap : Nat) (ts : List Sc.Tok) (B0 : Nat) (w : World) (i : Nat) (rest : List Sc.Tok) (s : List UInt8) (tail : Nat) (h : Owns w B0 (.slice ao ts.length cap) ts) (hn : ts.length ≤ 4096)
    (hd : (ts.drop i).map Sc.erase = (Sc.El.leaf t).toks ++ rest) (hs : s.length ≤ 10000000000) (htx : t.text.length ≤ 4096) (h5 : t.kind = 5) :
    Calls Tryz.prog 28 #[.agg #[.slice ao ts.length cap, .int .i64 W], .string ⟨s.toArray⟩, .int .i64 i, .int .i64 tail] w fun e w' => e = .returned (.string ⟨(s ++ t.text).toArray⟩) ∧ Below w.heap.size w w' := by
  have HEND := hide (fun W1 (hW1 : Owns W1 B0 (.slice ao ts.length cap) ts) => rend_any (.leaf t) hw ao cap ts B0 W1 i rest hW1 hn hd)
  have HFL := hide (fun W1 (hW1 : Owns W1 B0 (.slice ao ts.length cap) ts) => rflat_any [t] ao cap ts B0 W1 i rest hW1 hn hd (by simp) (by simp [Sc.wt]; omega))
  have HOW := hide (fun W1 (hW : Below w.heap.size w W1) => h.below hW)
  have hz := bsize s
  have hz2 := bsize t.text
  have HA := hide (bapp s t.text)
  generalize (⟨(s ++ t.text).toArray⟩ : ByteArray) = X at HA ⊢
  obtain ⟨hi, h1, h2, _, _⟩ := Sc.tok_at hd
  obtain ⟨g, hg1, -, -, hg4, hcap, c0, c1, -, -⟩ := h.at i hi
  subst hg1
  rw [h1] at c0
  rw [h2] at c1
  clear hd h1 h2
  generalize (⟨s.toArray⟩ : ByteArray) = sb at HA hz ⊢
  have e5 : Sc.hasC [t] = true := by simp [Sc.hasC, h5]
  simp only [e5, if_true, Bool.not_true, List.length_singleton] at HFL
  rw [h5] at c0
  generalize (⟨t.text.toArray⟩ : ByteArray) = tb at HA c1 hz2
  clear e5 h5
  go_enter Tryz.func28, Tryz.ntmps28
  go_wp2_with fail
  go_quiet (first
    | (go_at_call 27; refine Calls.quiet_of_same (HEND.out _ ?_); exact HOW.out _ (below_drewN ((Below.refl _ _).alloc (Nat.le_refl _) _) _))
    | (go_at_call 61; refine Calls.quiet_of_same (HFL.out _ ?_); exact HOW.out _ (below_drewN ((Below.refl _ _).alloc (Nat.le_refl _) _) _)))
  go_wp2
  go_quiet (fail)
  go_wp2
  go_ret
  exact ⟨by rw [HA.out]; rfl, below_drewN ((Below.refl _ _).alloc (Nat.le_refl _) _) _⟩

set_option maxRecDepth 20000 in
set_option maxHeartbeats 1000000 in
theorem elem_fits (W : Nat) (hW : W ≤ 200) (e : Sc.El) (hw : e.WF) (ao : Option Addr) (cap : Nat) (ts : List Sc.Tok) (B0 : Nat) (w : World) (i : Nat) (rest : List Sc.Tok) (s : List UInt8) (tail : Nat) (h : Owns w B0 (.slice ao ts.length cap) ts) (hn : ts.length ≤ 4096)
    (hd : (ts.drop i).map Sc.erase = e.toks ++ rest) (hs : s.length ≤ 10000000000) (hwt : Sc.wt e.toks ≤ 20000) (hf : Sc.fits W e (Sc.colB 0 s) tail = true) :
    Calls Tryz.prog 28 #[.agg #[.slice ao ts.length cap, .int .i64 W], .string ⟨s.toArray⟩, .int .i64 i, .int .i64 tail] w fun e' w' => e' = .returned (.string ⟨(s ++ Sc.flS e.toks e.toks.length).toArray⟩) ∧ Below w.heap.size w w' := by
  have hpos : 0 < e.toks.length := by obtain ⟨r, hr⟩ := e.toks_first; rw [hr]; simp
  have hfit : Sc.colB 0 s + (Sc.flS e.toks e.toks.length).length + tail ≤ W := by
    unfold Sc.fits Sc.El.flen at hf
    rw [Sc.flS_all e hw]
    simp only [Bool.and_eq_true, decide_eq_true_eq] at hf; exact hf.2
  have e5 : Sc.hasC e.toks = false := by
    unfold Sc.fits at hf
    simp only [Bool.and_eq_true, Bool.not_eq_true'] at hf; exact hf.1
  have HEND := hide (fun W1 (hW1 : Owns W1 B0 (.slice ao ts.length cap) ts) => rend_any e hw ao cap ts B0 W1 i rest hW1 hn hd)
  have HFL := hide (fun W1 (hW1 : Owns W1 B0 (.slice ao ts.length cap) ts) => rflat_any e.toks ao cap ts B0 W1 i rest hW1 hn hd hpos hwt)
  have HCO := hide (fun W1 => column_any s W1 (by omega))
  have HOW := hide (fun W1 (hW : Below w.heap.size w W1) => h.below hW)
  have hz := bsize s
  have hz2 := bsize (Sc.flS e.toks e.toks.length)
  have HA := hide (bapp s (Sc.flS e.toks e.toks.length))
  generalize (⟨(s ++ Sc.flS e.toks e.toks.length).toArray⟩ : ByteArray) = X at HA ⊢
  obtain ⟨hi, _⟩ := Sc.tok_get hd 0 hpos
  rw [Nat.add_zero] at hi
  obtain ⟨g, hg1, -, -, hg4, hcap, -, -, -, -⟩ := h.at i hi
  subst hg1
  clear hd
  generalize (⟨s.toArray⟩ : ByteArray) = sb at HA HCO hz ⊢
  generalize Sc.colB 0 s = cb at HCO hfit hf
  simp only [e5, Bool.false_eq_true, if_false, Bool.not_false] at HFL
  generalize (⟨(Sc.flS e.toks e.toks.length).toArray⟩ : ByteArray) = tb at HA hz2 HFL
  rw [← hz2] at hfit
  clear e5 hf hz2
  go_enter Tryz.func28, Tryz.ntmps28
  go_wp2_with fail
  go_quiet (first
    | (go_at_call 27; refine Calls.quiet_of_same (HEND.out _ ?_); exact HOW.out _ (below_drewN ((Below.refl _ _).alloc (Nat.le_refl _) _) _))
    | (go_at_call 61; refine Calls.quiet_of_same (HFL.out _ ?_); exact HOW.out _ (below_drewN ((Below.refl _ _).alloc (Nat.le_refl _) _) _)))
  go_wp2
  go_quiet ((go_at_call 62; refine (HCO.out _).mono ?_; rintro e1 w1 ⟨he, hw1⟩; exact ⟨he, _, hw1⟩))
  go_wp2
  go_ret
  exact ⟨by rw [HA.out]; rfl, below_drewN ((Below.refl _ _).alloc (Nat.le_refl _) _) _⟩

set_option maxRecDepth 20000 in
set_option maxHeartbeats 1000000 in
theorem elem_atom (W : Nat) (hW : W ≤ 200) (t : Sc.Tok) (h1 : t.kind = 1) (hw : (Sc.El.leaf t).WF) (ao : Option Addr) (cap : Nat) (ts : List Sc.Tok) (B0 : Nat) (w : World) (i : Nat) (rest : List Sc.Tok) (s : List UInt8) (tail : Nat) (h : Owns w B0 (.slice ao ts.length cap) ts) (hn : ts.length ≤ 4096)
    (hd : (ts.drop i).map Sc.erase = (Sc.El.leaf t).toks ++ rest) (htl : tail ≤ 100000) (hs : s.length ≤ 10000000000) (hwt : t.text.length ≤ 4096) (hc : Sc.colB 0 s ≤ 10000000000) (hfit : ¬ Sc.colB 0 s + t.text.length + tail ≤ W) :
    Calls Tryz.prog 28 #[.agg #[.slice ao ts.length cap, .int .i64 W], .string ⟨s.toArray⟩, .int .i64 i, .int .i64 tail] w fun e' w' => e' = .returned (.string ⟨(s ++ t.text).toArray⟩) ∧ Below w.heap.size w w' := by
  have e5 : Sc.hasC [t] = false := by simp [Sc.hasC, h1]
  have hfl : Sc.flS [t] [t].length = t.text := Sc.flS_one [t] (by simp)
  have HEND := hide (fun W1 (hW1 : Owns W1 B0 (.slice ao ts.length cap) ts) => rend_any (.leaf t) hw ao cap ts B0 W1 i rest hW1 hn hd)
  have HFL := hide (fun W1 (hW1 : Owns W1 B0 (.slice ao ts.length cap) ts) => rflat_any [t] ao cap ts B0 W1 i rest hW1 hn hd (by simp) (by simp [Sc.wt]; omega))
  have HCO := hide (fun W1 => column_any s W1 (by omega))
  have HOW := hide (fun W1 (hW : Below w.heap.size w W1) => h.below hW)
  have hz := bsize s
  have hz2 := bsize (t.text)
  have HA := hide (bapp s (t.text))
  generalize (⟨(s ++ t.text).toArray⟩ : ByteArray) = X at HA ⊢
  obtain ⟨hi, q1, q2, -, -⟩ := Sc.tok_at hd
  obtain ⟨g, hg1, -, -, hg4, hcap, c0, c1, -, -⟩ := h.at i hi
  subst hg1
  rw [q1, h1] at c0
  rw [q2] at c1
  clear q1 q2
  clear hd
  generalize (⟨s.toArray⟩ : ByteArray) = sb at HA HCO hz ⊢
  generalize Sc.colB 0 s = cb at HCO hfit hc
  simp only [e5, Bool.false_eq_true, if_false, Bool.not_false, hfl] at HFL
  generalize (⟨(t.text).toArray⟩ : ByteArray) = tb at HA hz2 HFL c1
  rw [← hz2] at hfit hwt
  clear e5 hfl hz2 h1
  go_enter Tryz.func28, Tryz.ntmps28
  go_wp2_with fail
  go_quiet (first
    | (go_at_call 27; refine Calls.quiet_of_same (HEND.out _ ?_); exact HOW.out _ (below_drewN ((Below.refl _ _).alloc (Nat.le_refl _) _) _))
    | (go_at_call 61; refine Calls.quiet_of_same (HFL.out _ ?_); exact HOW.out _ (below_drewN ((Below.refl _ _).alloc (Nat.le_refl _) _) _)))
  go_wp2
  go_quiet ((go_at_call 62; refine (HCO.out _).mono ?_; rintro e1 w1 ⟨he, hw1⟩; exact ⟨he, _, hw1⟩))
  go_wp2
  go_ret
  exact ⟨by rw [HA.out]; rfl, below_drewN ((Below.refl _ _).alloc (Nat.le_refl _) _) _⟩
end Go.Proofs.YtoieklacpkahbaaGreatDoor
namespace Go.Proofs.YtoieklacpkahbaaGreatDoor
open Go.RowKit

set_option maxRecDepth 20000 in
set_option maxHeartbeats 2000000 in
theorem elem_pre (W : Nat) (t : Sc.Tok) (e : Sc.El) (hw : (Sc.El.pre t e).WF) (ao : Option Addr) (cap : Nat) (ts : List Sc.Tok) (B0 : Nat) (w : World) (i : Nat) (rest : List Sc.Tok) (s R : List UInt8) (tail : Nat) (h : Owns w B0 (.slice ao ts.length cap) ts) (hn : ts.length ≤ 4096)
    (hd : (ts.drop i).map Sc.erase = (Sc.El.pre t e).toks ++ rest) (hs : s.length ≤ 10000000000) (hwt : Sc.wt (Sc.El.pre t e).toks ≤ 20000) (htx : t.text.length ≤ 4096) (h5 : Sc.hasC (Sc.El.pre t e).toks = true)
    (HIH : Hid (∀ W1, Owns W1 B0 (.slice ao ts.length cap) ts → Calls Tryz.prog 28 #[.agg #[.slice ao ts.length cap, .int .i64 W], .string ⟨(s ++ t.text).toArray⟩, .int .i64 (i + 1 : Nat), .int .i64 tail] W1 fun e' w' => e' = .returned (.string ⟨R.toArray⟩) ∧ Below W1.heap.size W1 w')) :
    Calls Tryz.prog 28 #[.agg #[.slice ao ts.length cap, .int .i64 W], .string ⟨s.toArray⟩, .int .i64 i, .int .i64 tail] w fun e' w' => e' = .returned (.string ⟨R.toArray⟩) ∧ Below w.heap.size w w' := by
  have hpos : 0 < (Sc.El.pre t e).toks.length := by simp [Sc.El.toks]
  have h4 := hw.1
  have HEND := hide (fun W1 (hW1 : Owns W1 B0 (.slice ao ts.length cap) ts) => rend_any (.pre t e) hw ao cap ts B0 W1 i rest hW1 hn hd)
  have HFL := hide (fun W1 (hW1 : Owns W1 B0 (.slice ao ts.length cap) ts) => rflat_any (Sc.El.pre t e).toks ao cap ts B0 W1 i rest hW1 hn hd hpos hwt)
  have HOW := hide (fun W1 (hW : Below w.heap.size w W1) => h.below hW)
  have hz := bsize s
  have hz2 := bsize t.text
  have HA := hide (bapp s t.text)
  rw [Sc.El.toks] at hd
  obtain ⟨hi, q1, q2, -, -⟩ := Sc.tok_at hd
  obtain ⟨g, hg1, -, -, hg4, hcap, c0, c1, -, -⟩ := h.at i hi
  subst hg1
  rw [q1, h4] at c0
  rw [q2] at c1
  simp only [h5, if_true, Bool.not_true] at HFL
  generalize (Sc.El.pre t e).toks.length = n at HEND HFL hpos
  generalize (⟨(s ++ t.text).toArray⟩ : ByteArray) = X at HA HIH
  generalize (⟨s.toArray⟩ : ByteArray) = sb at HA hz ⊢
  generalize (⟨t.text.toArray⟩ : ByteArray) = tb at HA hz2 c1
  have hq : sb ++ tb = X := HA.out
  clear HA hd q1 q2 h4 h5
  go_enter Tryz.func28, Tryz.ntmps28
  go_wp2_with fail
  go_quiet (first
    | (go_at_call 27; refine Calls.quiet_of_same (HEND.out _ ?_); exact HOW.out _ (below_drewN ((Below.refl _ _).alloc (Nat.le_refl _) _) _))
    | (go_at_call 61; refine Calls.quiet_of_same (HFL.out _ ?_); exact HOW.out _ (below_drewN ((Below.refl _ _).alloc (Nat.le_refl _) _) _)))
  go_wp2
  go_quiet (fail)
  go_wp2
  go_region_with (go_at_call 28; refine (HIH.out _ (HOW.out _ (below_drewN ((Below.refl _ _).alloc (Nat.le_refl _) _) _))).mono ?_; rintro e1 w1 ⟨rfl, hb1⟩)
  all_goals
    go_wp2
    go_ret
    exact ⟨rfl, (below_drewN ((Below.refl _ _).alloc (Nat.le_refl _) _) _).trans (hb1.mono (by simp))⟩
end Go.Proofs.YtoieklacpkahbaaGreatDoor
namespace Go.Proofs.YtoieklacpkahbaaGreatDoor
open Go.RowKit
theorem rstyle_any (o c : Sc.Tok) (es : List Sc.El) (hw : (Sc.El.lst o es c).WF) (ao : Option Addr) (cap : Nat) (ts : List Sc.Tok) (B0 : Nat) (w : World) (W : Int) (i : Nat) (rest : List Sc.Tok) (h : Owns w B0 (.slice ao ts.length cap) ts) (hn : ts.length ≤ 4096) (hts : ∀ t ∈ ts, t.text.length ≤ 4096)
    (hd : (ts.drop i).map Sc.erase = (Sc.El.lst o es c).toks ++ rest) :
    Calls Tryz.prog 99 #[.agg #[.slice ao ts.length cap, .int .i64 W], .int .i64 i] w fun e w' => e = .returned (.tuple #[.int .i64 ((Sc.style o es).1 : Nat), .bool (Sc.style o es).2]) ∧ Below w.heap.size w w' := by
  obtain ⟨hw1, hw2, hw3⟩ : o.kind = 2 ∧ c.kind = 3 ∧ Sc.WFL es := hw
  rw [Sc.El.toks, List.cons_append, List.append_assoc, List.singleton_append] at hd
  obtain ⟨hi, q1, q2, q3, hd1⟩ := Sc.tok_at hd
  cases es with
  | nil =>
    rw [Sc.toksL, List.nil_append] at hd1
    obtain ⟨hi1, r1, -, -, -⟩ := Sc.tok_at hd1
    have := rstyle_no ao cap ts B0 w W i h hi1 hn (by rw [r1, hw2]; decide) hts
    rw [q2] at this
    exact this
  | cons e r =>
    obtain ⟨y, hy⟩ := e.toks_first
    have hd2 := hd1
    rw [Sc.toksL, hy, List.cons_append, List.cons_append] at hd2
    obtain ⟨hi1, r1, r2, -, hd3⟩ := Sc.tok_at hd2
    by_cases hk : e.first.kind = 1
    · cases e with
      | pre t e => have h4 := hw3.1.1; have h5 : t.kind = 1 := hk; omega
      | lst o' es' c' => have h4 := hw3.1.1; have h5 : o'.kind = 1 := hk; omega
      | leaf f =>
        have hy0 : y = [] := by simpa [Sc.El.toks, Sc.El.first] using hy.symm
        subst hy0
        rw [List.nil_append] at hd3
        have h2 : ∃ u v, Sc.toksL r ++ c :: rest = u :: v ∧ ((r = [] ∧ u.kind = 3) ∨ ∃ e r', r = e :: r' ∧ u.kind = e.first.kind) := by
          cases r with
          | nil => exact ⟨c, rest, rfl, .inl ⟨rfl, hw2⟩⟩
          | cons e r =>
            obtain ⟨z, hz⟩ := e.toks_first
            exact ⟨e.first, z ++ (Sc.toksL r ++ c :: rest), by rw [Sc.toksL, hz]; simp, .inr ⟨e, r, rfl, rfl⟩⟩
        obtain ⟨u, v, huv, hsk⟩ := h2
        rw [huv] at hd3
        obtain ⟨hi2, s1, -, -, -⟩ := Sc.tok_at hd3
        have hf1 : f.kind = 1 := hk
        have hst := Sc.style_leafs o f r u.kind hf1 hw3.2 hsk
        refine rstyle_yes ao cap ts B0 w W i h hi2 hn (by rw [r1]; exact hk) hts _ _ _ _ (hide rfl) (hide rfl) (hide rfl) (hide rfl) _ _ (hide ?_)
        rw [Sc.formsB_any, Sc.blocksB_any]
        rw [← hst]
        have e2 : ts[i + 1].text = f.text := r2
        have e3 : ts[i + 2].kind = u.kind := s1
        rw [q2, e2, e3]
    · have := rstyle_no ao cap ts B0 w W i h hi1 hn (by rw [r1]; exact hk) hts
      rw [q2] at this
      rw [Sc.style_not o (e :: r) (fun f r' he => by cases he; exact hk)]
      exact this

set_option maxRecDepth 20000 in
set_option maxHeartbeats 2000000 in
theorem elem_pre2 (W : Nat) (hW : W ≤ 200) (t : Sc.Tok) (e : Sc.El) (hw : (Sc.El.pre t e).WF) (ao : Option Addr) (cap : Nat) (ts : List Sc.Tok) (B0 : Nat) (w : World) (i : Nat) (rest : List Sc.Tok) (s R : List UInt8) (tail : Nat) (h : Owns w B0 (.slice ao ts.length cap) ts) (hn : ts.length ≤ 4096)
    (hd : (ts.drop i).map Sc.erase = (Sc.El.pre t e).toks ++ rest) (htl : tail ≤ 100000) (hs : s.length ≤ 10000000000) (hwt : Sc.wt (Sc.El.pre t e).toks ≤ 20000) (htx : t.text.length ≤ 4096) (hc : Sc.colB 0 s ≤ 10000000000) (h5 : Sc.hasC (Sc.El.pre t e).toks = false) (hfit : ¬ Sc.colB 0 s + (Sc.El.pre t e).flen + tail ≤ W)
    (HIH : Hid (∀ W1, Owns W1 B0 (.slice ao ts.length cap) ts → Calls Tryz.prog 28 #[.agg #[.slice ao ts.length cap, .int .i64 W], .string ⟨(s ++ t.text).toArray⟩, .int .i64 (i + 1 : Nat), .int .i64 tail] W1 fun e' w' => e' = .returned (.string ⟨R.toArray⟩) ∧ Below W1.heap.size W1 w')) :
    Calls Tryz.prog 28 #[.agg #[.slice ao ts.length cap, .int .i64 W], .string ⟨s.toArray⟩, .int .i64 i, .int .i64 tail] w fun e' w' => e' = .returned (.string ⟨R.toArray⟩) ∧ Below w.heap.size w w' := by
  have hpos : 0 < (Sc.El.pre t e).toks.length := by simp [Sc.El.toks]
  have h4 := hw.1
  have hfl := Sc.flS_all _ hw
  have hfl2 : (Sc.flS (Sc.El.pre t e).toks (Sc.El.pre t e).toks.length).length = (Sc.El.pre t e).flen := by rw [hfl]; rfl
  have hfl3 := flen_wt _ hw
  have HEND := hide (fun W1 (hW1 : Owns W1 B0 (.slice ao ts.length cap) ts) => rend_any (.pre t e) hw ao cap ts B0 W1 i rest hW1 hn hd)
  have HFL := hide (fun W1 (hW1 : Owns W1 B0 (.slice ao ts.length cap) ts) => rflat_any (Sc.El.pre t e).toks ao cap ts B0 W1 i rest hW1 hn hd hpos hwt)
  have HCO := hide (fun W1 => column_any s W1 (by omega))
  have HOW := hide (fun W1 (hW : Below w.heap.size w W1) => h.below hW)
  have hz := bsize s
  have hz2 := bsize t.text
  have hz3 := bsize (Sc.flS (Sc.El.pre t e).toks (Sc.El.pre t e).toks.length)
  have HA := hide (bapp s t.text)
  rw [Sc.El.toks] at hd
  obtain ⟨hi, q1, q2, -, -⟩ := Sc.tok_at hd
  obtain ⟨g, hg1, -, -, hg4, hcap, c0, c1, -, -⟩ := h.at i hi
  subst hg1
  rw [q1, h4] at c0
  rw [q2] at c1
  simp only [h5, Bool.false_eq_true, if_false, Bool.not_false] at HFL
  rw [← hfl2, ← hz3] at hfit
  rw [← hfl2, ← hz3] at hfl3
  generalize (⟨(Sc.flS (Sc.El.pre t e).toks (Sc.El.pre t e).toks.length).toArray⟩ : ByteArray) = fb at HFL hz3 hfit hfl3
  generalize (Sc.El.pre t e).toks.length = n at HEND HFL hpos
  generalize (⟨(s ++ t.text).toArray⟩ : ByteArray) = X at HA HIH
  generalize (⟨s.toArray⟩ : ByteArray) = sb at HA hz HCO ⊢
  generalize Sc.colB 0 s = cb at HCO hfit hc
  generalize (⟨t.text.toArray⟩ : ByteArray) = tb at HA hz2 c1
  have hq : sb ++ tb = X := HA.out
  have hfb : fb.size ≤ 20000 := by omega
  clear HA hd q1 q2 h4 h5 hfl hfl2 hz3 hfl3
  go_enter Tryz.func28, Tryz.ntmps28
  go_wp2_with fail
  go_quiet (first
    | (go_at_call 27; refine Calls.quiet_of_same (HEND.out _ ?_); exact HOW.out _ (below_drewN ((Below.refl _ _).alloc (Nat.le_refl _) _) _))
    | (go_at_call 61; refine Calls.quiet_of_same (HFL.out _ ?_); exact HOW.out _ (below_drewN ((Below.refl _ _).alloc (Nat.le_refl _) _) _)))
  go_wp2
  go_quiet ((go_at_call 62; refine (HCO.out _).mono ?_; rintro e1 w1 ⟨he, hw1⟩; exact ⟨he, _, hw1⟩))
  go_wp2
  go_region_with (go_at_call 28; refine (HIH.out _ (HOW.out _ (below_drewN ((Below.refl _ _).alloc (Nat.le_refl _) _) _))).mono ?_; rintro e1 w1 ⟨rfl, hb1⟩)
  all_goals
    go_wp2
    go_ret
    exact ⟨rfl, (below_drewN ((Below.refl _ _).alloc (Nat.le_refl _) _) _).trans (hb1.mono (by simp))⟩
end Go.Proofs.YtoieklacpkahbaaGreatDoor
namespace Go.Proofs.YtoieklacpkahbaaGreatDoor
open Go.RowKit
set_option maxRecDepth 20000 in
set_option maxHeartbeats 2000000 in
theorem elem_lst1 (W : Nat) (t : Sc.Tok) (es : List Sc.El) (cl : Sc.Tok) (hw : (Sc.El.lst t es cl).WF) (ao : Option Addr) (cap : Nat) (ts : List Sc.Tok) (B0 : Nat) (w : World) (i : Nat) (rest : List Sc.Tok) (s R : List UInt8) (tail : Nat) (h : Owns w B0 (.slice ao ts.length cap) ts) (hn : ts.length ≤ 4096)
    (hd : (ts.drop i).map Sc.erase = (Sc.El.lst t es cl).toks ++ rest) (_ : s.length ≤ 10000000000) (hwt : Sc.wt (Sc.El.lst t es cl).toks ≤ 20000) (_ : t.text.length ≤ 4096) (h5 : Sc.hasC (Sc.El.lst t es cl).toks = true)
    (HIH : Hid (∀ W1, Owns W1 B0 (.slice ao ts.length cap) ts → Calls Tryz.prog 63 #[.agg #[.slice ao ts.length cap, .int .i64 W], .string ⟨s.toArray⟩, .int .i64 i, .int .i64 tail] W1 fun e' w' => e' = .returned (.string ⟨R.toArray⟩) ∧ Below W1.heap.size W1 w')) :
    Calls Tryz.prog 28 #[.agg #[.slice ao ts.length cap, .int .i64 W], .string ⟨s.toArray⟩, .int .i64 i, .int .i64 tail] w fun e' w' => e' = .returned (.string ⟨R.toArray⟩) ∧ Below w.heap.size w w' := by
  have hpos : 0 < (Sc.El.lst t es cl).toks.length := by simp [Sc.El.toks]
  have h4 := hw.1
  have HEND := hide (fun W1 (hW1 : Owns W1 B0 (.slice ao ts.length cap) ts) => rend_any (.lst t es cl) hw ao cap ts B0 W1 i rest hW1 hn hd)
  have HFL := hide (fun W1 (hW1 : Owns W1 B0 (.slice ao ts.length cap) ts) => rflat_any (Sc.El.lst t es cl).toks ao cap ts B0 W1 i rest hW1 hn hd hpos hwt)
  have HOW := hide (fun W1 (hW : Below w.heap.size w W1) => h.below hW)
  have hz := bsize s
  have hz2 := bsize t.text
  rw [Sc.El.toks] at hd
  obtain ⟨hi, q1, q2, -, -⟩ := Sc.tok_at hd
  obtain ⟨g, hg1, -, -, hg4, hcap, c0, c1, -, -⟩ := h.at i hi
  subst hg1
  rw [q1, h4] at c0
  rw [q2] at c1
  simp only [h5, if_true, Bool.not_true] at HFL
  generalize (Sc.El.lst t es cl).toks.length = n at HEND HFL hpos
  generalize (⟨s.toArray⟩ : ByteArray) = sb at hz HIH ⊢
  generalize (⟨t.text.toArray⟩ : ByteArray) = tb at hz2 c1
  clear hd q1 q2 h4 h5
  go_enter Tryz.func28, Tryz.ntmps28
  go_wp2_with fail
  go_quiet (first
    | (go_at_call 27; refine Calls.quiet_of_same (HEND.out _ ?_); exact HOW.out _ (below_drewN ((Below.refl _ _).alloc (Nat.le_refl _) _) _))
    | (go_at_call 61; refine Calls.quiet_of_same (HFL.out _ ?_); exact HOW.out _ (below_drewN ((Below.refl _ _).alloc (Nat.le_refl _) _) _)))
  go_wp2
  go_quiet (fail)
  go_wp2_with (go_at_call 63; refine (HIH.out _ (HOW.out _ (below_drewN ((Below.refl _ _).alloc (Nat.le_refl _) _) _))).mono ?_; rintro e1 w1 ⟨rfl, hb1⟩)
  go_ret
  exact ⟨rfl, (below_drewN ((Below.refl _ _).alloc (Nat.le_refl _) _) _).trans (hb1.mono (by simp))⟩
set_option maxRecDepth 20000 in
set_option maxHeartbeats 2000000 in
theorem elem_lst2 (W : Nat) (hW : W ≤ 200) (t : Sc.Tok) (es : List Sc.El) (cl : Sc.Tok) (hw : (Sc.El.lst t es cl).WF) (ao : Option Addr) (cap : Nat) (ts : List Sc.Tok) (B0 : Nat) (w : World) (i : Nat) (rest : List Sc.Tok) (s R : List UInt8) (tail : Nat) (h : Owns w B0 (.slice ao ts.length cap) ts) (hn : ts.length ≤ 4096)
    (hd : (ts.drop i).map Sc.erase = (Sc.El.lst t es cl).toks ++ rest) (htl : tail ≤ 100000) (hs : s.length ≤ 10000000000) (hwt : Sc.wt (Sc.El.lst t es cl).toks ≤ 20000) (_ : t.text.length ≤ 4096) (hc : Sc.colB 0 s ≤ 10000000000) (h5 : Sc.hasC (Sc.El.lst t es cl).toks = false) (hfit : ¬ Sc.colB 0 s + (Sc.El.lst t es cl).flen + tail ≤ W)
    (HIH : Hid (∀ W1, Owns W1 B0 (.slice ao ts.length cap) ts → Calls Tryz.prog 63 #[.agg #[.slice ao ts.length cap, .int .i64 W], .string ⟨s.toArray⟩, .int .i64 i, .int .i64 tail] W1 fun e' w' => e' = .returned (.string ⟨R.toArray⟩) ∧ Below W1.heap.size W1 w')) :
    Calls Tryz.prog 28 #[.agg #[.slice ao ts.length cap, .int .i64 W], .string ⟨s.toArray⟩, .int .i64 i, .int .i64 tail] w fun e' w' => e' = .returned (.string ⟨R.toArray⟩) ∧ Below w.heap.size w w' := by
  have hpos : 0 < (Sc.El.lst t es cl).toks.length := by simp [Sc.El.toks]
  have h4 := hw.1
  have hfl := Sc.flS_all _ hw
  have hfl2 : (Sc.flS (Sc.El.lst t es cl).toks (Sc.El.lst t es cl).toks.length).length = (Sc.El.lst t es cl).flen := by rw [hfl]; rfl
  have hfl3 := flen_wt _ hw
  have HEND := hide (fun W1 (hW1 : Owns W1 B0 (.slice ao ts.length cap) ts) => rend_any (.lst t es cl) hw ao cap ts B0 W1 i rest hW1 hn hd)
  have HFL := hide (fun W1 (hW1 : Owns W1 B0 (.slice ao ts.length cap) ts) => rflat_any (Sc.El.lst t es cl).toks ao cap ts B0 W1 i rest hW1 hn hd hpos hwt)
  have HCO := hide (fun W1 => column_any s W1 (by omega))
  have HOW := hide (fun W1 (hW : Below w.heap.size w W1) => h.below hW)
  have hz := bsize s
  have hz2 := bsize t.text
  have hz3 := bsize (Sc.flS (Sc.El.lst t es cl).toks (Sc.El.lst t es cl).toks.length)
  rw [Sc.El.toks] at hd
  obtain ⟨hi, q1, q2, -, -⟩ := Sc.tok_at hd
  obtain ⟨g, hg1, -, -, hg4, hcap, c0, c1, -, -⟩ := h.at i hi
  subst hg1
  rw [q1, h4] at c0
  rw [q2] at c1
  simp only [h5, Bool.false_eq_true, if_false, Bool.not_false] at HFL
  rw [← hfl2, ← hz3] at hfit
  rw [← hfl2, ← hz3] at hfl3
  generalize (⟨(Sc.flS (Sc.El.lst t es cl).toks (Sc.El.lst t es cl).toks.length).toArray⟩ : ByteArray) = fb at HFL hz3 hfit hfl3
  generalize (Sc.El.lst t es cl).toks.length = n at HEND HFL hpos
  generalize (⟨s.toArray⟩ : ByteArray) = sb at hz HCO HIH ⊢
  generalize Sc.colB 0 s = cb at HCO hfit hc
  generalize (⟨t.text.toArray⟩ : ByteArray) = tb at hz2 c1
  have hfb : fb.size ≤ 20000 := by omega
  clear hd q1 q2 h4 h5 hfl hfl2 hz3 hfl3
  go_enter Tryz.func28, Tryz.ntmps28
  go_wp2_with fail
  go_quiet (first
    | (go_at_call 27; refine Calls.quiet_of_same (HEND.out _ ?_); exact HOW.out _ (below_drewN ((Below.refl _ _).alloc (Nat.le_refl _) _) _))
    | (go_at_call 61; refine Calls.quiet_of_same (HFL.out _ ?_); exact HOW.out _ (below_drewN ((Below.refl _ _).alloc (Nat.le_refl _) _) _)))
  go_wp2
  go_quiet ((go_at_call 62; refine (HCO.out _).mono ?_; rintro e1 w1 ⟨he, hw1⟩; exact ⟨he, _, hw1⟩))
  go_wp2_with (go_at_call 63; refine (HIH.out _ (HOW.out _ (below_drewN ((Below.refl _ _).alloc (Nat.le_refl _) _) _))).mono ?_; rintro e1 w1 ⟨rfl, hb1⟩)
  go_ret
  exact ⟨rfl, (below_drewN ((Below.refl _ _).alloc (Nat.le_refl _) _) _).trans (hb1.mono (by simp))⟩
end Go.Proofs.YtoieklacpkahbaaGreatDoor
