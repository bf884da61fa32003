/- Walks: the program's styles: which one a list has. -/
/- Walks: the program's styles: head words. -/
/- Walks: the program's styles: calls; the rows of the table. -/
import Derived.Test.YtoieklacpkahbaaDoorLayG
import Derived.Test.YtoieklacpkahbaaDoorPlainM
namespace Go.Proofs.YtoieklacpkahbaaDoor
open Go.RowKit
namespace Sc
/-- The atom that a list begins with, if it opens by a bracket alone. -/
def hdW (o : Tok) : List El → List UInt8
  | e :: _ => if o.text = [40] ∧ e.first.kind = 1 then e.first.text else []
  | [] => []
def pl2 : List El → Bool
  | _ :: e :: _ => !(e.first.kind == 5)
  | _ => false
end Sc

set_option maxHeartbeats 1000000 in
theorem tailOf_one (ao : Option Addr) (cap : Nat) (last : Int) (w : World) :
    Calls Tryd.prog 45 #[.slice ao 1 cap, .int .i64 last] w fun e w' => e = .returned (.int .i64 last) ∧ w' = w := by
  go_enter Tryd.func45, Tryd.ntmps45
  go_wp2
  go_ret
  exact ⟨rfl, rfl⟩
set_option maxHeartbeats 1000000 in
theorem tailOf_more (g off n cap : Nat) (last : Int) (w : World) (hn : 2 ≤ n) (bt : ByteArray) (bb : Bool) (h1 : w.cell? ⟨g, off + 6 + 1, none⟩ = some (.string bt)) (h3 : w.cell? ⟨g, off + 6 + 3, none⟩ = some (.bool bb)) (hb : bt.size ≤ 4096) :
    Calls Tryd.prog 45 #[.slice (some ⟨g, off, none⟩) n cap, .int .i64 last] w fun e w' => e = .returned (.int .i64 (if bb then 1 + (bt.size : Int) else 0)) ∧ w' = w := by
  have hn1 : ((n : Int) == 1) = false := beq_eq_false_iff_ne.2 (by omega)
  cases bb with
  | true =>
    go_enter Tryd.func45, Tryd.ntmps45
    go_wp2
    go_ret
    exact ⟨rfl, rfl⟩
  | false =>
    go_enter Tryd.func45, Tryd.ntmps45
    go_wp2
    go_ret
    exact ⟨rfl, rfl⟩

set_option maxHeartbeats 1000000 in
theorem second_any (t : Sc.Tok) (p f : Int) (v : Value) (ins : List Sc.El) (A : Nat → Prop) (w : World) (h : RowV A w ins.length v (ElsAt A w ins)) :
    Calls Tryd.prog 116 #[.agg #[.int .i64 t.kind, .string ⟨t.text.toArray⟩, .int .i64 p, .bool t.behind, v, .int .i64 f]] w fun e w' => e = .returned (.bool (Sc.pl2 ins)) ∧ Below w.heap.size w w' := by
  obtain ⟨ao, cap, rfl, hcap⟩ := h.shape
  generalize (⟨t.text.toArray⟩ : ByteArray) = tt
  by_cases hlt : 1 < ins.length
  · obtain ⟨g, cap', pp, vo, vn, vc, e1, -, hg, hcp, -, c0, c1, c2, c3, c4, c5⟩ := h.cells 1 hlt
    injection e1 with e1 e2 e3
    subst e1 e3
    have hX : Sc.pl2 ins = !(ins[1].first.kind == 5) := by
      match ins, hlt with
      | _ :: e :: _, _ => rfl
    rw [hX]
    clear hX
    generalize ins[1].first.kind = k1 at *
    generalize (⟨ins[1].first.text.toArray⟩ : ByteArray) = b1 at *
    generalize ins[1].first.behind = q1 at *
    generalize ins[1].fl = f1 at *
    have hm : (1 : Int) < ins.length := by omega
    go_enter Tryd.func116, Tryd.ntmps116
    go_wp2_with (go_at_call 60; refine (is_any _ _ _ _ _ _ _ _).mono ?_; rintro e w1 ⟨rfl, rfl⟩)
    go_ret
    exact ⟨rfl, ((Below.refl _ _).alloc (Nat.le_refl _) _).alloc (by simp) _⟩
  · have hX : Sc.pl2 ins = false := by
      match ins, hlt with
      | [], _ => rfl
      | [_], _ => rfl
      | _ :: _ :: _, h => simp at h
    rw [hX]
    clear hX
    have hm : ¬ (1 : Int) < ins.length := by omega
    go_enter Tryd.func116, Tryd.ntmps116
    go_wp2
    go_ret
    exact ⟨rfl, ((Below.refl _ _).alloc (Nat.le_refl _) _)⟩
end Go.Proofs.YtoieklacpkahbaaDoor
namespace Go.Proofs.YtoieklacpkahbaaDoor
open Go.RowKit
theorem retb {a b : Bool} (h : a = b) : Ending.returned (.bool a) = .returned (.bool b) := by rw [h]
theorem tl40 (t : Sc.Tok) : ((⟨t.text.toArray⟩ : ByteArray).toList == [40]) = decide (t.text = [40]) := by
  rw [ByteArray.toList_mk]
  by_cases h : t.text = [40] <;> simp [h]
set_option maxHeartbeats 1000000 in
theorem head_any (t : Sc.Tok) (p f : Int) (v : Value) (ins : List Sc.El) (A : Nat → Prop) (w : World) (h : RowV A w ins.length v (ElsAt A w ins)) :
    Calls Tryd.prog 115 #[.agg #[.int .i64 t.kind, .string ⟨t.text.toArray⟩, .int .i64 p, .bool t.behind, v, .int .i64 f]] w fun e w' => e = .returned (.string ⟨(Sc.hdW t ins).toArray⟩) ∧ Below w.heap.size w w' := by
  obtain ⟨ao, cap, rfl, hcap⟩ := h.shape
  have hb40 := tl40 t
  generalize hX : (⟨(Sc.hdW t ins).toArray⟩ : ByteArray) = X
  by_cases hlt : 0 < ins.length
  · obtain ⟨g, cap', pp, vo, vn, vc, e1, -, hg, hcp, -, c0, c1, c2, c3, c4, c5⟩ := h.cells 0 hlt
    injection e1 with e1 e2 e3
    subst e1 e3
    have hm : ((ins.length : Int) == 0) = false := beq_eq_false_iff_ne.2 (by omega)
    have hw : Sc.hdW t ins = if t.text = [40] ∧ ins[0].first.kind = 1 then ins[0].first.text else [] := by
      match ins, hlt with
      | e :: _, _ => rfl
    by_cases h1 : t.text = [40]
    · rw [decide_eq_true h1] at hb40
      cases k1 : (ins[0].first.kind == 1) with
      | true =>
        rw [hw, if_pos ⟨h1, by simpa using k1⟩] at hX
        have HX := hide hX
        clear hX hw h1
        generalize (⟨t.text.toArray⟩ : ByteArray) = tt at *
        generalize (⟨ins[0].first.text.toArray⟩ : ByteArray) = b1 at *
        generalize ins[0].first.kind = kk at *
        generalize ins[0].first.behind = q1 at *
        generalize ins[0].fl = f1 at *
        go_enter Tryd.func115, Tryd.ntmps115
        go_wp2_with (go_at_call 60; refine (is_any _ _ _ _ _ _ _ _).mono ?_; rintro e w1 ⟨he, rfl⟩; rw [k1] at he; subst he)
        go_ret
        exact ⟨by rw [← HX.out]; rfl, ((Below.refl _ _).alloc (Nat.le_refl _) _).alloc (by simp) _⟩
      | false =>
        rw [hw, if_neg (fun h' => by simp [h'.2] at k1)] at hX
        have HX := hide hX
        clear hX hw h1
        generalize (⟨t.text.toArray⟩ : ByteArray) = tt at *
        generalize (⟨ins[0].first.text.toArray⟩ : ByteArray) = b1 at *
        generalize ins[0].first.kind = kk at *
        generalize ins[0].first.behind = q1 at *
        generalize ins[0].fl = f1 at *
        go_enter Tryd.func115, Tryd.ntmps115
        go_wp2_with (go_at_call 60; refine (is_any _ _ _ _ _ _ _ _).mono ?_; rintro e w1 ⟨he, rfl⟩; rw [k1] at he; subst he)
        go_ret
        exact ⟨by rw [← HX.out]; rfl, ((Below.refl _ _).alloc (Nat.le_refl _) _).alloc (by simp) _⟩
    · rw [decide_eq_false h1] at hb40
      rw [hw, if_neg (fun h' => h1 h'.1)] at hX
      have HX := hide hX
      clear hX hw h1
      generalize (⟨t.text.toArray⟩ : ByteArray) = tt at *
      go_enter Tryd.func115, Tryd.ntmps115
      go_wp2
      go_ret
      exact ⟨by rw [← HX.out]; rfl, ((Below.refl _ _).alloc (Nat.le_refl _) _)⟩
  · have hin : ins = [] := List.eq_nil_of_length_eq_zero (by omega)
    subst hin
    have HX := hide hX
    clear hX
    by_cases h1 : t.text = [40]
    · rw [decide_eq_true h1] at hb40
      clear h1
      generalize (⟨t.text.toArray⟩ : ByteArray) = tt at *
      go_enter Tryd.func115, Tryd.ntmps115
      go_wp2
      go_ret
      exact ⟨by rw [← HX.out]; rfl, ((Below.refl _ _).alloc (Nat.le_refl _) _)⟩
    · rw [decide_eq_false h1] at hb40
      clear h1
      generalize (⟨t.text.toArray⟩ : ByteArray) = tt at *
      go_enter Tryd.func115, Tryd.ntmps115
      go_wp2
      go_ret
      exact ⟨by rw [← HX.out]; rfl, ((Below.refl _ _).alloc (Nat.le_refl _) _)⟩

theorem bd (l x : List UInt8) : decide (l = x) = (l == x) := by by_cases h : l = x <;> simp [h]
theorem forms_or (l : List UInt8) : decide (l ∈ Sc.forms) = ((l == [100, 101, 102, 105, 110, 101]) || (l == [108, 97, 109, 98, 100, 97]) || (l == [108, 101, 116]) || (l == [108, 101, 116, 42]) || (l == [108, 101, 116, 114, 101, 99]) || (l == [119, 104, 101, 110]) || (l == [117, 110, 108, 101, 115, 115])) := by
  unfold Sc.forms
  simp only [List.mem_cons, List.not_mem_nil, or_false, Bool.decide_or]
  simp only [bd, Bool.or_assoc]
set_option maxHeartbeats 2000000 in
theorem isForm_any (t : Sc.Tok) (p f : Int) (v : Value) (ins : List Sc.El) (A : Nat → Prop) (w : World) (h : RowV A w ins.length v (ElsAt A w ins)) :
    Calls Tryd.prog 96 #[.agg #[.int .i64 t.kind, .string ⟨t.text.toArray⟩, .int .i64 p, .bool t.behind, v, .int .i64 f]] w fun e w' => e = .returned (.bool (decide (Sc.hdW t ins ∈ Sc.forms))) ∧ Below w.heap.size w w' := by
  obtain ⟨ao, cap, rfl, hcap⟩ := h.shape
  have HH := hide (fun w' (hb : Below w.heap.size w w') => head_any t p f (.slice ao ins.length cap) ins A w' (h.mono (A' := A) (w' := w') (Q' := ElsAt A w' ins) (fun k hk hk2 => ⟨hk, hb.block k hk2⟩) (fun cs hcs => ElsAt.mono (fun k hk hk2 => ⟨hk, hb.block k hk2⟩) _ _ hcs)))
  have hB := forms_or (Sc.hdW t ins)
  rw [← ByteArray.toList_mk (Sc.hdW t ins)] at hB
  obtain ⟨R, hR⟩ : ∃ R, R = decide (Sc.hdW t ins ∈ Sc.forms) := ⟨_, rfl⟩
  rw [ByteArray.toList_mk] at hB
  rw [← hR] at hB ⊢
  rw [← ByteArray.toList_mk (Sc.hdW t ins)] at hB
  have HB := hide hB
  clear hB hR
  generalize (⟨t.text.toArray⟩ : ByteArray) = tt at *
  generalize (⟨(Sc.hdW t ins).toArray⟩ : ByteArray) = hw at *
  go_enter Tryd.func96, Tryd.ntmps96
  go_wp2_with (go_at_call 115; refine (HH.out _ ((Below.refl _ _).alloc (Nat.le_refl _) _)).mono ?_; rintro e w1 ⟨rfl, hb1⟩; have HB1 := hide (((Below.refl _ w).alloc (Nat.le_refl _) _).trans (hb1.mono (by simp))); clear hb1)
  all_goals go_ret
  all_goals first
    | (exfalso; rename_i a b; exact absurd (a.symm.trans b) (by decide))
    | exact ⟨retb (a := true) (by rw [HB.out]; simp only [*, Bool.true_or, Bool.or_true, Bool.or_false]), HB1.out⟩
    | exact ⟨retb (a := false) (by rw [HB.out]; simp only [*, Bool.or_false]), HB1.out⟩
theorem blocks_or (l : List UInt8) : decide (l ∈ Sc.blocks) = ((l == [98, 101, 103, 105, 110]) || (l == [99, 111, 110, 100]) || (l == [101, 108, 115, 101]) || (l == [100, 111])) := by
  unfold Sc.blocks
  simp only [List.mem_cons, List.not_mem_nil, or_false, Bool.decide_or]
  simp only [bd, Bool.or_assoc]
set_option maxHeartbeats 2000000 in
theorem isBlock_any (t : Sc.Tok) (p f : Int) (v : Value) (ins : List Sc.El) (A : Nat → Prop) (w : World) (h : RowV A w ins.length v (ElsAt A w ins)) :
    Calls Tryd.prog 98 #[.agg #[.int .i64 t.kind, .string ⟨t.text.toArray⟩, .int .i64 p, .bool t.behind, v, .int .i64 f]] w fun e w' => e = .returned (.bool (decide (Sc.hdW t ins ∈ Sc.blocks))) ∧ Below w.heap.size w w' := by
  obtain ⟨ao, cap, rfl, hcap⟩ := h.shape
  have HH := hide (fun w' (hb : Below w.heap.size w w') => head_any t p f (.slice ao ins.length cap) ins A w' (h.mono (A' := A) (w' := w') (Q' := ElsAt A w' ins) (fun k hk hk2 => ⟨hk, hb.block k hk2⟩) (fun cs hcs => ElsAt.mono (fun k hk hk2 => ⟨hk, hb.block k hk2⟩) _ _ hcs)))
  have hB := blocks_or (Sc.hdW t ins)
  rw [← ByteArray.toList_mk (Sc.hdW t ins)] at hB
  obtain ⟨R, hR⟩ : ∃ R, R = decide (Sc.hdW t ins ∈ Sc.blocks) := ⟨_, rfl⟩
  rw [ByteArray.toList_mk] at hB
  rw [← hR] at hB ⊢
  rw [← ByteArray.toList_mk (Sc.hdW t ins)] at hB
  have HB := hide hB
  clear hB hR
  generalize (⟨t.text.toArray⟩ : ByteArray) = tt at *
  generalize (⟨(Sc.hdW t ins).toArray⟩ : ByteArray) = hw at *
  go_enter Tryd.func98, Tryd.ntmps98
  go_wp2_with (go_at_call 115; refine (HH.out _ ((Below.refl _ _).alloc (Nat.le_refl _) _)).mono ?_; rintro e w1 ⟨rfl, hb1⟩; have HB1 := hide (((Below.refl _ w).alloc (Nat.le_refl _) _).trans (hb1.mono (by simp))); clear hb1)
  all_goals go_ret
  all_goals first
    | (exfalso; rename_i a b; exact absurd (a.symm.trans b) (by decide))
    | exact ⟨retb (a := true) (by rw [HB.out]; simp only [*, Bool.true_or, Bool.or_true, Bool.or_false]), HB1.out⟩
    | exact ⟨retb (a := false) (by rw [HB.out]; simp only [*, Bool.or_false]), HB1.out⟩
end Go.Proofs.YtoieklacpkahbaaDoor
namespace Go.Proofs.YtoieklacpkahbaaDoor
open Go.RowKit
namespace Sc
def isCl : List El → Bool
  | e :: r => pl2 (e :: r) && ((e.first.kind == 1) && !(e.first.text.take 2 == [35, 124]))
  | [] => false
end Sc
theorem ex2 (s : ByteArray) : (s.extract 0 2).toList = s.data.toList.take 2 := by
  rw [ByteArray.toList_eq, ByteArray.data_extract]; simp
set_option maxHeartbeats 1000000 in
theorem prefix_any (s : ByteArray) (w : World) :
    Calls Tryd.prog 65 #[.string s, .string ⟨#[35, 124]⟩] w fun e w' => e = .returned (.bool (s.data.toList.take 2 == [35, 124])) ∧ w' = w := by
  go_enter Tryd.func65, Tryd.ntmps65
  go_wp2
  · go_ret
    exact ⟨retb (a := ((s.extract 0 2).toList == [35, 124])) (by rw [ex2]), rfl⟩
  · go_ret
    refine ⟨retb (a := false) ?_, rfl⟩
    rename_i hlt
    have hl : s.data.toList.length < 2 := by
      have : s.size = s.data.toList.length := by rw [Array.length_toList]; rfl
      omega
    symm
    refine beq_eq_false_iff_ne.2 (fun e => ?_)
    have := congrArg List.length e
    simp at this
    simp at hl
    omega
set_option maxHeartbeats 1000000 in
theorem isCall_any (t : Sc.Tok) (p f : Int) (v : Value) (ins : List Sc.El) (A : Nat → Prop) (w : World) (h : RowV A w ins.length v (ElsAt A w ins)) :
    Calls Tryd.prog 100 #[.agg #[.int .i64 t.kind, .string ⟨t.text.toArray⟩, .int .i64 p, .bool t.behind, v, .int .i64 f]] w fun e w' => e = .returned (.bool (Sc.isCl ins)) ∧ Below w.heap.size w w' := by
  obtain ⟨ao, cap, rfl, hcap⟩ := h.shape
  have HS := hide (fun w' (hb : Below w.heap.size w w') => second_any t p f (.slice ao ins.length cap) ins A w' (h.mono (A' := A) (w' := w') (Q' := ElsAt A w' ins) (fun k hk hk2 => ⟨hk, hb.block k hk2⟩) (fun cs hcs => ElsAt.mono (fun k hk hk2 => ⟨hk, hb.block k hk2⟩) _ _ hcs)))
  generalize (⟨t.text.toArray⟩ : ByteArray) = tt at *
  cases hp : Sc.pl2 ins with
  | false =>
    have hX : Sc.isCl ins = false := by
      match ins, hp with
      | [], _ => rfl
      | e :: r, hp => show (Sc.pl2 (e :: r) && _) = false; rw [hp]; rfl
    rw [hX]
    rw [hp] at HS
    clear hX hp
    go_enter Tryd.func100, Tryd.ntmps100
    go_wp2_with (go_at_call 116; refine (HS.out _ ((Below.refl _ _).alloc (Nat.le_refl _) _)).mono ?_; rintro e w1 ⟨rfl, hb1⟩; have HB1 := hide (((Below.refl _ w).alloc (Nat.le_refl _) _).trans (hb1.mono (by simp))); clear hb1)
    go_ret
    exact ⟨rfl, HB1.out⟩
  | true =>
    have hlt : 0 < ins.length := by
      match ins, hp with
      | e :: r, _ => simp
    obtain ⟨g, cap', pp, vo, vn, vc, e1, -, hg, hcp, -, c0, c1, c2, c3, c4, c5⟩ := h.cells 0 hlt
    injection e1 with e1 e2 e3
    subst e1 e3
    have hX : Sc.isCl ins = ((ins[0].first.kind == 1) && !((⟨ins[0].first.text.toArray⟩ : ByteArray).data.toList.take 2 == [35, 124])) := by
      match ins, hp with
      | e :: r, hp => show (Sc.pl2 (e :: r) && _) = _; rw [hp]; simp
    rw [hp] at HS
    rw [hX]
    clear hX
    generalize (⟨ins[0].first.text.toArray⟩ : ByteArray) = b1 at *
    generalize ins[0].first.kind = kk at *
    generalize ins[0].first.behind = q1 at *
    generalize ins[0].fl = f1 at *
    have HPX := hide (fun w' => prefix_any b1 w')
    generalize (b1.data.toList.take 2 == [35, 124]) = px at *
    cases k1 : (kk == 1) with
    | true =>
      go_enter Tryd.func100, Tryd.ntmps100
      go_wp2_with (first
        | (go_at_call 116; refine (HS.out _ ((Below.refl _ _).alloc (Nat.le_refl _) _)).mono ?_; rintro e w1 ⟨rfl, hb1⟩; have HB1 := hide (((Below.refl _ w).alloc (Nat.le_refl _) _).trans (hb1.mono (by simp))); have cc := fun (a : Addr) (ha : a.block < w.heap.size) => HB1.out.cell (p := a) ha; have d0 := (cc ⟨g, 0 * 6, none⟩ hg).trans c0; have d1 := (cc ⟨g, 0 * 6 + 1, none⟩ hg).trans c1; have d2 := (cc ⟨g, 0 * 6 + 2, none⟩ hg).trans c2; have d3 := (cc ⟨g, 0 * 6 + 3, none⟩ hg).trans c3; have d4 := (cc ⟨g, 0 * 6 + 4, none⟩ hg).trans c4; have d5 := (cc ⟨g, 0 * 6 + 5, none⟩ hg).trans c5; have hs1 := hb1.size; have hbx := hb1.cell (p := ⟨w.heap.size, 4, none⟩) (by simp); have b4 := hbx.trans (show _ = some (Value.slice (some ⟨g, 0, none⟩) ins.length cap) by simp); clear hb1 hbx cc c0 c1 c2 c3 c4 c5)
        | (go_at_call 60; refine (is_any _ _ _ _ _ _ _ _).mono ?_; rintro e w2 ⟨he, rfl⟩; rw [k1] at he; subst he)
        | (go_at_call 65; refine (HPX.out _).mono ?_; rintro e w3 ⟨rfl, rfl⟩))
      go_ret
      exact ⟨retb (by simp), (HB1.out.alloc HB1.out.size _).alloc (by have := HB1.out.size; simp; omega) _⟩
    | false =>
      go_enter Tryd.func100, Tryd.ntmps100
      go_wp2_with (first
        | (go_at_call 116; refine (HS.out _ ((Below.refl _ _).alloc (Nat.le_refl _) _)).mono ?_; rintro e w1 ⟨rfl, hb1⟩; have HB1 := hide (((Below.refl _ w).alloc (Nat.le_refl _) _).trans (hb1.mono (by simp))); have cc := fun (a : Addr) (ha : a.block < w.heap.size) => HB1.out.cell (p := a) ha; have d0 := (cc ⟨g, 0 * 6, none⟩ hg).trans c0; have d1 := (cc ⟨g, 0 * 6 + 1, none⟩ hg).trans c1; have d2 := (cc ⟨g, 0 * 6 + 2, none⟩ hg).trans c2; have d3 := (cc ⟨g, 0 * 6 + 3, none⟩ hg).trans c3; have d4 := (cc ⟨g, 0 * 6 + 4, none⟩ hg).trans c4; have d5 := (cc ⟨g, 0 * 6 + 5, none⟩ hg).trans c5; have hs1 := hb1.size; have hbx := hb1.cell (p := ⟨w.heap.size, 4, none⟩) (by simp); have b4 := hbx.trans (show _ = some (Value.slice (some ⟨g, 0, none⟩) ins.length cap) by simp); clear hb1 hbx cc c0 c1 c2 c3 c4 c5)
        | (go_at_call 60; refine (is_any _ _ _ _ _ _ _ _).mono ?_; rintro e w2 ⟨he, rfl⟩; rw [k1] at he; subst he))
      go_ret
      exact ⟨retb (by simp), (HB1.out.alloc HB1.out.size _).alloc (by have := HB1.out.size; simp; omega) _⟩
end Go.Proofs.YtoieklacpkahbaaDoor
