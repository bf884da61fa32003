/- Walks: the program's styles: head words. -/
import Derived.Test.YtigdfhcmhidhbaaDoorLayH
namespace Go.Proofs.YtigdfhcmhidhbaaDoor
open Go.RowKit
theorem retb {a b : Bool} (h : a = b) : Ending.returned (.bool a) = .returned (.bool b) := by rw [h]
theorem tl40 (t : Sc.Tok) : ((⟨t.text.toArray⟩ : ByteArray).toList == [40]) = decide (t.text = [40]) := by
  rw [ByteArray.toList_mk]
  by_cases h : t.text = [40] <;> simp [h]
set_option maxHeartbeats 1000000 in
theorem head_any (t : Sc.Tok) (p f : Int) (v : Value) (ins : List Sc.El) (A : Nat → Prop) (w : World) (h : RowV A w ins.length v (ElsAt A w ins)) :
    Calls Tryd.prog 115 #[.agg #[.int .i64 t.kind, .string ⟨t.text.toArray⟩, .int .i64 p, .bool t.behind, v, .int .i64 f]] w fun e w' => e = .returned (.string ⟨(Sc.hdW t ins).toArray⟩) ∧ Below w.heap.size w w' := by
  obtain ⟨ao, cap, rfl, hcap⟩ := h.shape
  have hb40 := tl40 t
  generalize hX : (⟨(Sc.hdW t ins).toArray⟩ : ByteArray) = X
  by_cases hlt : 0 < ins.length
  · obtain ⟨g, cap', pp, vo, vn, vc, e1, -, hg, hcp, -, c0, c1, c2, c3, c4, c5⟩ := h.cells 0 hlt
    injection e1 with e1 e2 e3
    subst e1 e3
    have hm : ((ins.length : Int) == 0) = false := beq_eq_false_iff_ne.2 (by omega)
    have hw : Sc.hdW t ins = if t.text = [40] ∧ ins[0].first.kind = 1 then ins[0].first.text else [] := by
      match ins, hlt with
      | e :: _, _ => rfl
    by_cases h1 : t.text = [40]
    · rw [decide_eq_true h1] at hb40
      cases k1 : (ins[0].first.kind == 1) with
      | true =>
        rw [hw, if_pos ⟨h1, by simpa using k1⟩] at hX
        have HX := hide hX
        clear hX hw h1
        generalize (⟨t.text.toArray⟩ : ByteArray) = tt at *
        generalize (⟨ins[0].first.text.toArray⟩ : ByteArray) = b1 at *
        generalize ins[0].first.kind = kk at *
        generalize ins[0].first.behind = q1 at *
        generalize ins[0].fl = f1 at *
        go_enter Tryd.func115, Tryd.ntmps115
        go_wp2_with (go_at_call 60; refine (is_any _ _ _ _ _ _ _ _).mono ?_; rintro e w1 ⟨he, rfl⟩; rw [k1] at he; subst he)
        go_ret
        exact ⟨by rw [← HX.out]; rfl, ((Below.refl _ _).alloc (Nat.le_refl _) _).alloc (by simp) _⟩
      | false =>
        rw [hw, if_neg (fun h' => by simp [h'.2] at k1)] at hX
        have HX := hide hX
        clear hX hw h1
        generalize (⟨t.text.toArray⟩ : ByteArray) = tt at *
        generalize (⟨ins[0].first.text.toArray⟩ : ByteArray) = b1 at *
        generalize ins[0].first.kind = kk at *
        generalize ins[0].first.behind = q1 at *
        generalize ins[0].fl = f1 at *
        go_enter Tryd.func115, Tryd.ntmps115
        go_wp2_with (go_at_call 60; refine (is_any _ _ _ _ _ _ _ _).mono ?_; rintro e w1 ⟨he, rfl⟩; rw [k1] at he; subst he)
        go_ret
        exact ⟨by rw [← HX.out]; rfl, ((Below.refl _ _).alloc (Nat.le_refl _) _).alloc (by simp) _⟩
    · rw [decide_eq_false h1] at hb40
      rw [hw, if_neg (fun h' => h1 h'.1)] at hX
      have HX := hide hX
      clear hX hw h1
      generalize (⟨t.text.toArray⟩ : ByteArray) = tt at *
      go_enter Tryd.func115, Tryd.ntmps115
      go_wp2
      go_ret
      exact ⟨by rw [← HX.out]; rfl, ((Below.refl _ _).alloc (Nat.le_refl _) _)⟩
  · have hin : ins = [] := List.eq_nil_of_length_eq_zero (by omega)
    subst hin
    have HX := hide hX
    clear hX
    by_cases h1 : t.text = [40]
    · rw [decide_eq_true h1] at hb40
      clear h1
      generalize (⟨t.text.toArray⟩ : ByteArray) = tt at *
      go_enter Tryd.func115, Tryd.ntmps115
      go_wp2
      go_ret
      exact ⟨by rw [← HX.out]; rfl, ((Below.refl _ _).alloc (Nat.le_refl _) _)⟩
    · rw [decide_eq_false h1] at hb40
      clear h1
      generalize (⟨t.text.toArray⟩ : ByteArray) = tt at *
      go_enter Tryd.func115, Tryd.ntmps115
      go_wp2
      go_ret
      exact ⟨by rw [← HX.out]; rfl, ((Below.refl _ _).alloc (Nat.le_refl _) _)⟩

theorem bd (l x : List UInt8) : decide (l = x) = (l == x) := by by_cases h : l = x <;> simp [h]
theorem forms_or (l : List UInt8) : decide (l ∈ Sc.forms) = ((l == [100, 101, 102, 105, 110, 101]) || (l == [108, 97, 109, 98, 100, 97]) || (l == [108, 101, 116]) || (l == [108, 101, 116, 42]) || (l == [108, 101, 116, 114, 101, 99]) || (l == [119, 104, 101, 110]) || (l == [117, 110, 108, 101, 115, 115])) := by
  unfold Sc.forms
  simp only [List.mem_cons, List.not_mem_nil, or_false, Bool.decide_or]
  simp only [bd, Bool.or_assoc]
set_option maxHeartbeats 2000000 in
theorem isForm_any (t : Sc.Tok) (p f : Int) (v : Value) (ins : List Sc.El) (A : Nat → Prop) (w : World) (h : RowV A w ins.length v (ElsAt A w ins)) :
    Calls Tryd.prog 96 #[.agg #[.int .i64 t.kind, .string ⟨t.text.toArray⟩, .int .i64 p, .bool t.behind, v, .int .i64 f]] w fun e w' => e = .returned (.bool (decide (Sc.hdW t ins ∈ Sc.forms))) ∧ Below w.heap.size w w' := by
  obtain ⟨ao, cap, rfl, hcap⟩ := h.shape
  have HH := hide (fun w' (hb : Below w.heap.size w w') => head_any t p f (.slice ao ins.length cap) ins A w' (h.mono (A' := A) (w' := w') (Q' := ElsAt A w' ins) (fun k hk hk2 => ⟨hk, hb.block k hk2⟩) (fun cs hcs => ElsAt.mono (fun k hk hk2 => ⟨hk, hb.block k hk2⟩) _ _ hcs)))
  have hB := forms_or (Sc.hdW t ins)
  rw [← ByteArray.toList_mk (Sc.hdW t ins)] at hB
  obtain ⟨R, hR⟩ : ∃ R, R = decide (Sc.hdW t ins ∈ Sc.forms) := ⟨_, rfl⟩
  rw [ByteArray.toList_mk] at hB
  rw [← hR] at hB ⊢
  rw [← ByteArray.toList_mk (Sc.hdW t ins)] at hB
  have HB := hide hB
  clear hB hR
  generalize (⟨t.text.toArray⟩ : ByteArray) = tt at *
  generalize (⟨(Sc.hdW t ins).toArray⟩ : ByteArray) = hw at *
  go_enter Tryd.func96, Tryd.ntmps96
  go_wp2_with (go_at_call 115; refine (HH.out _ ((Below.refl _ _).alloc (Nat.le_refl _) _)).mono ?_; rintro e w1 ⟨rfl, hb1⟩; have HB1 := hide (((Below.refl _ w).alloc (Nat.le_refl _) _).trans (hb1.mono (by simp))); clear hb1)
  all_goals go_ret
  all_goals first
    | (exfalso; rename_i a b; exact absurd (a.symm.trans b) (by decide))
    | exact ⟨retb (a := true) (by rw [HB.out]; simp only [*, Bool.true_or, Bool.or_true, Bool.or_false]), HB1.out⟩
    | exact ⟨retb (a := false) (by rw [HB.out]; simp only [*, Bool.or_false]), HB1.out⟩
theorem blocks_or (l : List UInt8) : decide (l ∈ Sc.blocks) = ((l == [98, 101, 103, 105, 110]) || (l == [99, 111, 110, 100]) || (l == [101, 108, 115, 101]) || (l == [100, 111])) := by
  unfold Sc.blocks
  simp only [List.mem_cons, List.not_mem_nil, or_false, Bool.decide_or]
  simp only [bd, Bool.or_assoc]
set_option maxHeartbeats 2000000 in
theorem isBlock_any (t : Sc.Tok) (p f : Int) (v : Value) (ins : List Sc.El) (A : Nat → Prop) (w : World) (h : RowV A w ins.length v (ElsAt A w ins)) :
    Calls Tryd.prog 98 #[.agg #[.int .i64 t.kind, .string ⟨t.text.toArray⟩, .int .i64 p, .bool t.behind, v, .int .i64 f]] w fun e w' => e = .returned (.bool (decide (Sc.hdW t ins ∈ Sc.blocks))) ∧ Below w.heap.size w w' := by
  obtain ⟨ao, cap, rfl, hcap⟩ := h.shape
  have HH := hide (fun w' (hb : Below w.heap.size w w') => head_any t p f (.slice ao ins.length cap) ins A w' (h.mono (A' := A) (w' := w') (Q' := ElsAt A w' ins) (fun k hk hk2 => ⟨hk, hb.block k hk2⟩) (fun cs hcs => ElsAt.mono (fun k hk hk2 => ⟨hk, hb.block k hk2⟩) _ _ hcs)))
  have hB := blocks_or (Sc.hdW t ins)
  rw [← ByteArray.toList_mk (Sc.hdW t ins)] at hB
  obtain ⟨R, hR⟩ : ∃ R, R = decide (Sc.hdW t ins ∈ Sc.blocks) := ⟨_, rfl⟩
  rw [ByteArray.toList_mk] at hB
  rw [← hR] at hB ⊢
  rw [← ByteArray.toList_mk (Sc.hdW t ins)] at hB
  have HB := hide hB
  clear hB hR
  generalize (⟨t.text.toArray⟩ : ByteArray) = tt at *
  generalize (⟨(Sc.hdW t ins).toArray⟩ : ByteArray) = hw at *
  go_enter Tryd.func98, Tryd.ntmps98
  go_wp2_with (go_at_call 115; refine (HH.out _ ((Below.refl _ _).alloc (Nat.le_refl _) _)).mono ?_; rintro e w1 ⟨rfl, hb1⟩; have HB1 := hide (((Below.refl _ w).alloc (Nat.le_refl _) _).trans (hb1.mono (by simp))); clear hb1)
  all_goals go_ret
  all_goals first
    | (exfalso; rename_i a b; exact absurd (a.symm.trans b) (by decide))
    | exact ⟨retb (a := true) (by rw [HB.out]; simp only [*, Bool.true_or, Bool.or_true, Bool.or_false]), HB1.out⟩
    | exact ⟨retb (a := false) (by rw [HB.out]; simp only [*, Bool.or_false]), HB1.out⟩
end Go.Proofs.YtigdfhcmhidhbaaDoor
