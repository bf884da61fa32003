/- Walks: the program's styles: calls; the rows of the table. -/
import Derived.Test.YtigdfhcmhidhbaaDoorLayI
namespace Go.Proofs.YtigdfhcmhidhbaaDoor
open Go.RowKit
namespace Sc
def isCl : List El → Bool
  | e :: r => pl2 (e :: r) && ((e.first.kind == 1) && !(e.first.text.take 2 == [35, 124]))
  | [] => false
end Sc
theorem ex2 (s : ByteArray) : (s.extract 0 2).toList = s.data.toList.take 2 := by
  rw [ByteArray.toList_eq, ByteArray.data_extract]; simp
set_option maxHeartbeats 1000000 in
theorem prefix_any (s : ByteArray) (w : World) :
    Calls Tryd.prog 65 #[.string s, .string ⟨#[35, 124]⟩] w fun e w' => e = .returned (.bool (s.data.toList.take 2 == [35, 124])) ∧ w' = w := by
  go_enter Tryd.func65, Tryd.ntmps65
  go_wp2
  · go_ret
    exact ⟨retb (a := ((s.extract 0 2).toList == [35, 124])) (by rw [ex2]), rfl⟩
  · go_ret
    refine ⟨retb (a := false) ?_, rfl⟩
    rename_i hlt
    have hl : s.data.toList.length < 2 := by
      have : s.size = s.data.toList.length := by rw [Array.length_toList]; rfl
      omega
    symm
    refine beq_eq_false_iff_ne.2 (fun e => ?_)
    have := congrArg List.length e
    simp at this
    simp at hl
    omega
set_option maxHeartbeats 1000000 in
theorem isCall_any (t : Sc.Tok) (p f : Int) (v : Value) (ins : List Sc.El) (A : Nat → Prop) (w : World) (h : RowV A w ins.length v (ElsAt A w ins)) :
    Calls Tryd.prog 100 #[.agg #[.int .i64 t.kind, .string ⟨t.text.toArray⟩, .int .i64 p, .bool t.behind, v, .int .i64 f]] w fun e w' => e = .returned (.bool (Sc.isCl ins)) ∧ Below w.heap.size w w' := by
  obtain ⟨ao, cap, rfl, hcap⟩ := h.shape
  have HS := hide (fun w' (hb : Below w.heap.size w w') => second_any t p f (.slice ao ins.length cap) ins A w' (h.mono (A' := A) (w' := w') (Q' := ElsAt A w' ins) (fun k hk hk2 => ⟨hk, hb.block k hk2⟩) (fun cs hcs => ElsAt.mono (fun k hk hk2 => ⟨hk, hb.block k hk2⟩) _ _ hcs)))
  generalize (⟨t.text.toArray⟩ : ByteArray) = tt at *
  cases hp : Sc.pl2 ins with
  | false =>
    have hX : Sc.isCl ins = false := by
      match ins, hp with
      | [], _ => rfl
      | e :: r, hp => show (Sc.pl2 (e :: r) && _) = false; rw [hp]; rfl
    rw [hX]
    rw [hp] at HS
    clear hX hp
    go_enter Tryd.func100, Tryd.ntmps100
    go_wp2_with (go_at_call 116; refine (HS.out _ ((Below.refl _ _).alloc (Nat.le_refl _) _)).mono ?_; rintro e w1 ⟨rfl, hb1⟩; have HB1 := hide (((Below.refl _ w).alloc (Nat.le_refl _) _).trans (hb1.mono (by simp))); clear hb1)
    go_ret
    exact ⟨rfl, HB1.out⟩
  | true =>
    have hlt : 0 < ins.length := by
      match ins, hp with
      | e :: r, _ => simp
    obtain ⟨g, cap', pp, vo, vn, vc, e1, -, hg, hcp, -, c0, c1, c2, c3, c4, c5⟩ := h.cells 0 hlt
    injection e1 with e1 e2 e3
    subst e1 e3
    have hX : Sc.isCl ins = ((ins[0].first.kind == 1) && !((⟨ins[0].first.text.toArray⟩ : ByteArray).data.toList.take 2 == [35, 124])) := by
      match ins, hp with
      | e :: r, hp => show (Sc.pl2 (e :: r) && _) = _; rw [hp]; simp
    rw [hp] at HS
    rw [hX]
    clear hX
    generalize (⟨ins[0].first.text.toArray⟩ : ByteArray) = b1 at *
    generalize ins[0].first.kind = kk at *
    generalize ins[0].first.behind = q1 at *
    generalize ins[0].fl = f1 at *
    have HPX := hide (fun w' => prefix_any b1 w')
    generalize (b1.data.toList.take 2 == [35, 124]) = px at *
    cases k1 : (kk == 1) with
    | true =>
      go_enter Tryd.func100, Tryd.ntmps100
      go_wp2_with (first
        | (go_at_call 116; refine (HS.out _ ((Below.refl _ _).alloc (Nat.le_refl _) _)).mono ?_; rintro e w1 ⟨rfl, hb1⟩; have HB1 := hide (((Below.refl _ w).alloc (Nat.le_refl _) _).trans (hb1.mono (by simp))); have cc := fun (a : Addr) (ha : a.block < w.heap.size) => HB1.out.cell (p := a) ha; have d0 := (cc ⟨g, 0 * 6, none⟩ hg).trans c0; have d1 := (cc ⟨g, 0 * 6 + 1, none⟩ hg).trans c1; have d2 := (cc ⟨g, 0 * 6 + 2, none⟩ hg).trans c2; have d3 := (cc ⟨g, 0 * 6 + 3, none⟩ hg).trans c3; have d4 := (cc ⟨g, 0 * 6 + 4, none⟩ hg).trans c4; have d5 := (cc ⟨g, 0 * 6 + 5, none⟩ hg).trans c5; have hs1 := hb1.size; have hbx := hb1.cell (p := ⟨w.heap.size, 4, none⟩) (by simp); have b4 := hbx.trans (show _ = some (Value.slice (some ⟨g, 0, none⟩) ins.length cap) by simp); clear hb1 hbx cc c0 c1 c2 c3 c4 c5)
        | (go_at_call 60; refine (is_any _ _ _ _ _ _ _ _).mono ?_; rintro e w2 ⟨he, rfl⟩; rw [k1] at he; subst he)
        | (go_at_call 65; refine (HPX.out _).mono ?_; rintro e w3 ⟨rfl, rfl⟩))
      go_ret
      exact ⟨retb (by simp), (HB1.out.alloc HB1.out.size _).alloc (by have := HB1.out.size; simp; omega) _⟩
    | false =>
      go_enter Tryd.func100, Tryd.ntmps100
      go_wp2_with (first
        | (go_at_call 116; refine (HS.out _ ((Below.refl _ _).alloc (Nat.le_refl _) _)).mono ?_; rintro e w1 ⟨rfl, hb1⟩; have HB1 := hide (((Below.refl _ w).alloc (Nat.le_refl _) _).trans (hb1.mono (by simp))); have cc := fun (a : Addr) (ha : a.block < w.heap.size) => HB1.out.cell (p := a) ha; have d0 := (cc ⟨g, 0 * 6, none⟩ hg).trans c0; have d1 := (cc ⟨g, 0 * 6 + 1, none⟩ hg).trans c1; have d2 := (cc ⟨g, 0 * 6 + 2, none⟩ hg).trans c2; have d3 := (cc ⟨g, 0 * 6 + 3, none⟩ hg).trans c3; have d4 := (cc ⟨g, 0 * 6 + 4, none⟩ hg).trans c4; have d5 := (cc ⟨g, 0 * 6 + 5, none⟩ hg).trans c5; have hs1 := hb1.size; have hbx := hb1.cell (p := ⟨w.heap.size, 4, none⟩) (by simp); have b4 := hbx.trans (show _ = some (Value.slice (some ⟨g, 0, none⟩) ins.length cap) by simp); clear hb1 hbx cc c0 c1 c2 c3 c4 c5)
        | (go_at_call 60; refine (is_any _ _ _ _ _ _ _ _).mono ?_; rintro e w2 ⟨he, rfl⟩; rw [k1] at he; subst he))
      go_ret
      exact ⟨retb (by simp), (HB1.out.alloc HB1.out.size _).alloc (by have := HB1.out.size; simp; omega) _⟩
end Go.Proofs.YtigdfhcmhidhbaaDoor
