/- The walk of Again. -/
/- The row of Again, and its card. -/
import Derived.Test.YtoieklacpkahbaaDoorSameWalk
import Derived.Test.YtoieklacpkahbaaDoorCards
import Derived.Test.YtoieklacpkahbaaDoorTie
import Derived.ProofKit
import Derived.OpenShut
import Derived.LaidMore
import Derived.Lay
import Derived.Deep.DeepHandedRow
import Derived.SevenTiedAt
import Derived.Stop.Joined
namespace Go.Proofs.YtoieklacpkahbaaDoor
open Go.RowKit
theorem fmtD_again {l : List UInt8} {ts : List Sc.Tok} {pl : Int} (h : Sc.scanRes l = (ts, 0, pl)) (n k : Int) (hl : (Sc.fmtT (Sc.wOf n).toNat ts).length ≤ 4096) : Sc.fmtD (Sc.fmtT (Sc.wOf n).toNat ts) (Sc.wOf k) = (Sc.fmtT (Sc.wOf k).toNat ts, 0, 0) := by
  have := Sc.wOf_in k
  unfold Sc.fmtD
  rw [if_neg (by omega)]
  exact Sc.again_plain h _ _ hl

set_option maxRecDepth 20000 in
set_option maxHeartbeats 4000000 in
theorem again_bad (s : ByteArray) (n : Int) (h1 : -9223372036854775808 ≤ n) (h2 : n ≤ 9223372036854775807) (k : Int) (k1 : -9223372036854775808 ≤ k) (k2 : k ≤ 9223372036854775807) (w : World) (hs : s.size ≤ maxLen) (m : Int) (hm : w.cell? ⟨0, 0, none⟩ = some (.int .i64 m)) (hml : 0 < w.heap.size) (ts : List Sc.Tok) (er pl : Int) (hsc : Sc.scanRes s.data.toList = (ts, er, pl)) (her : er ≠ 0) :
    Calls Tryd.prog 6 #[.string s, .int .i64 n, .int .i64 k] w fun e w' => e = .returned (.bool true) ∧ Below w.heap.size w w' := by
  have HAB := hide (able_any w m hm hml)
  have HW := hide (fun w' => widthOf_any n h1 h2 w')
  have HW2 := hide (fun w' => widthOf_any k k1 k2 w')
  have HF := hide (fun w' (hb : Below w.heap.size w w') => format_any s (Sc.wOf n) w' hs m ((hb.cell hml).trans hm) _ (hide (fmtD_bad hsc her n)))
  have HG := hide (fun w' (hb : Below w.heap.size w w') => format_any s (Sc.wOf k) w' hs m ((hb.cell hml).trans hm) _ (hide (fmtD_bad hsc her k)))
  unfold fmtV at HF HG
  simp only at HF HG
  have hbe : (er == 0) = false := beq_eq_false_iff_ne.2 her
  have hbn : (er != 0) = true := by rw [bne, hbe]; rfl
  have hemp : (⟨([] : List UInt8).toArray⟩ : ByteArray) = ⟨#[]⟩ := rfl
  rw [hemp] at HF HG
  clear hsc hemp
  obtain ⟨wn, hwn⟩ : ∃ wn, wn = Sc.wOf n := ⟨_, rfl⟩
  obtain ⟨wk, hwk⟩ : ∃ wk, wk = Sc.wOf k := ⟨_, rfl⟩
  rw [← hwn] at HF HW
  rw [← hwk] at HG HW2
  clear hwn hwk
  go_enter Tryd.func6, Tryd.ntmps6
  go_wp2_with (first
    | (go_at_call 17; refine HAB.out.mono ?_; rintro e w1 ⟨rfl, hb1⟩)
    | (go_at_call_of 19 n; refine (HW.out _).mono ?_; rintro e w3 ⟨rfl, rfl⟩)
    | (go_at_call_of 19 k; refine (HW2.out _).mono ?_; rintro e w3 ⟨rfl, rfl⟩)
    | (go_at_call_of 18 wn; refine (HF.out _ hb1).mono ?_; rintro e w2 ⟨rfl, hb2⟩; have HB2 := hide (hb1.trans (hb2.mono hb1.size)); clear hb2)
    | (go_at_call_of 18 wk; refine (HG.out _ HB2.out).mono ?_; rintro e w4 ⟨rfl, hb4⟩; have HB4 := hide (HB2.out.trans (hb4.mono HB2.out.size)); clear hb4))
  go_ret
  exact ⟨rfl, HB4.out⟩

set_option maxRecDepth 20000 in
set_option maxHeartbeats 8000000 in
theorem again_any (s : ByteArray) (n : Int) (h1 : -9223372036854775808 ≤ n) (h2 : n ≤ 9223372036854775807) (k : Int) (k1 : -9223372036854775808 ≤ k) (k2 : k ≤ 9223372036854775807) (w : World) (hs : s.size ≤ maxLen) (m : Int) (hm : w.cell? ⟨0, 0, none⟩ = some (.int .i64 m)) (hml : 0 < w.heap.size) :
    Calls Tryd.prog 6 #[.string s, .int .i64 n, .int .i64 k] w fun e w' => e = .returned (.bool true) ∧ Below w.heap.size w w' := by
  have HAB := hide (able_any w m hm hml)
  obtain ⟨ts, er, pl, hsc⟩ : ∃ ts er pl, Sc.scanRes s.data.toList = (ts, er, pl) := ⟨_, _, _, rfl⟩
  have HW := hide (fun w' => widthOf_any n h1 h2 w')
  have HW2 := hide (fun w' => widthOf_any k k1 k2 w')
  by_cases her : er = 0
  · subst her
    have HF := hide (fun w' (hb : Below w.heap.size w w') => format_any s (Sc.wOf n) w' hs m ((hb.cell hml).trans hm) _ (hide (fmtD_ok hsc n)))
    have HG := hide (fun w' (hb : Below w.heap.size w w') => format_any s (Sc.wOf k) w' hs m ((hb.cell hml).trans hm) _ (hide (fmtD_ok hsc k)))
    unfold fmtV at HF HG
    have hfl := fmtT_len hsc (Sc.wOf n).toNat
    obtain ⟨F, hF⟩ : ∃ F, F = Sc.fmtT (Sc.wOf n).toNat ts := ⟨_, rfl⟩
    obtain ⟨G, hG⟩ : ∃ G, G = Sc.fmtT (Sc.wOf k).toNat ts := ⟨_, rfl⟩
    rw [← hF] at HF hfl
    rw [← hG] at HG
    have hzf := wbsize F
    by_cases hlong : 4096 < F.length
    · generalize (⟨F.toArray⟩ : ByteArray) = FB at *
      generalize (⟨G.toArray⟩ : ByteArray) = GB at *
      rw [← hzf] at hlong hfl
      have hlong' : (4096 : Int) < FB.size := by omega
      clear hzf hF hG hsc
      obtain ⟨wn, hwn⟩ : ∃ wn, wn = Sc.wOf n := ⟨_, rfl⟩
      obtain ⟨wk, hwk⟩ : ∃ wk, wk = Sc.wOf k := ⟨_, rfl⟩
      rw [← hwn] at HF HW
      rw [← hwk] at HG HW2
      clear hwn hwk
      go_enter Tryd.func6, Tryd.ntmps6
      go_wp2_with (first
        | (go_at_call 17; refine HAB.out.mono ?_; rintro e w1 ⟨rfl, hb1⟩)
        | (go_at_call_of 19 n; refine (HW.out _).mono ?_; rintro e w3 ⟨rfl, rfl⟩)
        | (go_at_call_of 19 k; refine (HW2.out _).mono ?_; rintro e w3 ⟨rfl, rfl⟩)
        | (go_at_call_of 18 wn; refine (HF.out _ hb1).mono ?_; rintro e w2 ⟨rfl, hb2⟩; have HB2 := hide (hb1.trans (hb2.mono hb1.size)); clear hb2)
        | (go_at_call_of 18 wk; refine (HG.out _ HB2.out).mono ?_; rintro e w4 ⟨rfl, hb4⟩; have HB4 := hide (HB2.out.trans (hb4.mono HB2.out.size)); clear hb4))
      go_ret
      exact ⟨rfl, HB4.out⟩
    · have heU : Sc.fmtD (⟨F.toArray⟩ : ByteArray).data.toList (Sc.wOf k) = (G, 0, 0) := by
        rw [show (⟨F.toArray⟩ : ByteArray).data.toList = F by simp, hF, hG]
        exact fmtD_again hsc n k (by rw [← hF]; omega)
      have heV : Sc.fmtD (⟨F.toArray⟩ : ByteArray).data.toList (Sc.wOf n) = (F, 0, 0) := by
        rw [show (⟨F.toArray⟩ : ByteArray).data.toList = F by simp, hF]
        exact fmtD_again hsc n n (by rw [← hF]; omega)
      have HU := hide (fun w' (hb : Below w.heap.size w w') => format_any ⟨F.toArray⟩ (Sc.wOf k) w' (by rw [hzf]; unfold maxLen; omega) m ((hb.cell hml).trans hm) (G, 0, 0) (hide heU))
      have HV := hide (fun w' (hb : Below w.heap.size w w') => format_any ⟨F.toArray⟩ (Sc.wOf n) w' (by rw [hzf]; unfold maxLen; omega) m ((hb.cell hml).trans hm) (F, 0, 0) (hide heV))
      clear heU heV
      unfold fmtV at HU HV
      simp only at HU HV
      generalize (⟨F.toArray⟩ : ByteArray) = FB at *
      generalize (⟨G.toArray⟩ : ByteArray) = GB at *
      rw [← hzf] at hlong hfl
      have hlong' : ¬ (4096 : Int) < FB.size := by omega
      clear hzf hF hG hsc
      obtain ⟨wn, hwn⟩ : ∃ wn, wn = Sc.wOf n := ⟨_, rfl⟩
      obtain ⟨wk, hwk⟩ : ∃ wk, wk = Sc.wOf k := ⟨_, rfl⟩
      rw [← hwn] at HF HW HV
      rw [← hwk] at HG HW2 HU
      clear hwn hwk
      go_enter Tryd.func6, Tryd.ntmps6
      go_wp2_with (first
        | (go_at_call 17; refine HAB.out.mono ?_; rintro e w1 ⟨rfl, hb1⟩)
        | (go_at_call_of 19 n; refine (HW.out _).mono ?_; rintro e w3 ⟨rfl, rfl⟩)
        | (go_at_call_of 19 k; refine (HW2.out _).mono ?_; rintro e w3 ⟨rfl, rfl⟩)
        | (go_at_call_of 18 s; go_at_call_of 18 wn; refine (HF.out _ hb1).mono ?_; rintro e w2 ⟨rfl, hb2⟩; have HB2 := hide (hb1.trans (hb2.mono hb1.size)); clear hb2)
        | (go_at_call_of 18 s; go_at_call_of 18 wk; refine (HG.out _ HB2.out).mono ?_; rintro e w4 ⟨rfl, hb4⟩; have HB4 := hide (HB2.out.trans (hb4.mono HB2.out.size)); clear hb4)
        | (go_at_call_of 18 FB; go_at_call_of 18 wk; refine (HU.out _ HB4.out).mono ?_; rintro e w5 ⟨rfl, hb5⟩; have HB5 := hide (HB4.out.trans (hb5.mono HB4.out.size)); clear hb5)
        | (go_at_call_of 18 FB; go_at_call_of 18 wn; refine (HV.out _ HB5.out).mono ?_; rintro e w6 ⟨rfl, hb6⟩; have HB6 := hide (HB5.out.trans (hb6.mono HB5.out.size)); clear hb6))
      go_ret
      exact ⟨rfl, HB6.out⟩
  · exact again_bad s n h1 h2 k k1 k2 w hs m hm hml ts er pl hsc her
end Go.Proofs.YtoieklacpkahbaaDoor
namespace Go.Proofs.YtoieklacpkahbaaDoor
open Go.ChangeShapes Go.WideShapes Go.ChangeAt Go.RowKit
open Go.ChangeMaps (open_string shut_string)
namespace Ag

theorem wf_i64 {n : Int} (h : (Lit.int .i64 n).wf = true) : -9223372036854775808 ≤ n ∧ n ≤ 9223372036854775807 := by
  simp only [Lit.wf, IntKind.min, IntKind.max, IntKind.signed, IntKind.bits, Bool.and_eq_true, decide_eq_true_eq, if_true] at h
  omega
theorem own : ownKnob Tryd.prog.godebug = none := by kernel_rfl

set_option maxRecDepth 100000 in
theorem contract (H : Type) (enc : TypeId × Value → H) (W : World) (base : Nat) (args : Array Value) (ds gs : List (DataW H)) (before : List MemPlace)
    (hval : ∀ (j : Nat) t v, Tryd.f6.params[j]? = some t → args[j]? = some v → Value.okWide Tryd.prog W .any base t v)
    (hW : DataW.Whole enc Tryd.prog Tryd.f6.params.toList Rows.againSpec.vars false W args.toList ds gs before) (hsh : W.ShapedOpen Tryd.prog) :
    Calls Tryd.prog 6 args W fun e W' => ∃ v, e = .returned v ∧ Rows.againSpec.post enc Tryd.prog Tryd.f6 false true false false W args v W' := by
  have hW' := hW
  obtain ⟨p, q, hA0, hV, rfl, hfz, hnd⟩ := hW
  have hA : DataW.TrodAll enc Tryd.prog W 0 (fun _ => true) true Tryd.f6.params.toList args.toList ds p := hA0
  rw [Tryd.params6] at hA hval
  obtain ⟨v0, v1, v2, d0, d1, d2, p0, p1, p2, rfl, rfl, rfl, h0, h1, h2⟩ := trodAll_three hA
  obtain ⟨rfl, rfl⟩ := trodVars_none hV
  obtain ⟨s, rfl, rfl, rfl, hs⟩ := open_string Tryd.underlying9 (hval 0 9 v0 rfl rfl) h0
  obtain ⟨n1, rfl, rfl, rfl, hn1⟩ := open_int Tryd.underlying3 (hval 1 3 v1 rfl rfl) h1
  obtain ⟨n2, rfl, rfl, rfl, hn2⟩ := open_int Tryd.underlying3 (hval 2 3 v2 rfl rfl) h2
  have hr1 : -9223372036854775808 ≤ n1 ∧ n1 ≤ 9223372036854775807 := wf_i64 hn1
  have hr2 : -9223372036854775808 ≤ n2 ∧ n2 ≤ 9223372036854775807 := wf_i64 hn2
  clear hA0
  simp only [List.append_nil] at hW'
  obtain ⟨m, hm⟩ := Tryd.laysM146.s1_3 W hsh
  have hm : W.cell? ⟨0, 0, none⟩ = some (.int .i64 m) := hm
  refine (again_any s n1 hr1.1 hr1.2 n2 hr2.1 hr2.2 W hs m hm (World.block_lt_of_cell? W _ hm)).mono fun e W' ⟨he, hb⟩ => ?_
  subst he
  exact ⟨_, rfl, _, _, _, [], [], [], hW', trodAll_mk1 (shut_bool Tryd.underlying4 _), trodAll_mk3 (shut_string Tryd.underlying9 hs) (shut_int Tryd.underlying3 hn1) (shut_int Tryd.underlying3 hn2), rfl, hb.frame _, fun h => by cases h⟩

theorem laid_met (os : Os) (args : Array Value) : laidMetH Tryd.prog Rows.againRow.laid ((World.laidAll Tryd.prog os Rows.againRow.laid).forCall (fun _ _ => 0) ⟨#[], args, []⟩).memory := by
  rw [MakeChecks.laidMetH_plain _ _ _ (by kernel_rfl)]
  exact laidMet_laidAll _ (by kernel_rfl) (by kernel_rfl)
theorem reads0 (os : Os) {H : Type} (enc : TypeId × Value → H) : ∃ places, DataW.whole enc Tryd.prog ((World.laidAll Tryd.prog os Rows.againRow.laid).forCall (fun _ _ => 0) ⟨#[], #[.string ⟨#[]⟩, .int .i64 1, .int .i64 1], []⟩).memory Tryd.f6.params.toList Rows.againSpec.vars false #[Value.string ⟨#[]⟩, .int .i64 1, .int .i64 1].toList 8 = some ([.lit (.string []), .lit (.int .i64 1), .lit (.int .i64 1)], [], places) :=
  ⟨[], by kernel_rfl⟩

set_option maxRecDepth 100000 in
theorem lifted (os : Os) (started : os.Started) (H : Type) (enc : TypeId × Value → H) (F : Stop.Interp) :
    ReturnsInHanded {} Tryd.checked os 6 .any ((OpenSpec.ofChange Rows.againSpec).preRow enc Tryd.prog Tryd.f6 Rows.againRow.domain false Rows.againRow.laid) (((OpenSpec.ofChange Rows.againSpec).at F).post enc Tryd.prog Tryd.f6 false true false false) := by
  obtain ⟨places, hx⟩ := reads0 os enc
  refine returnsInHanded_of_row (C := Tryd.checked) (s := OpenSpec.ofChange Rows.againSpec) own started (by kernel_rfl) Tryd.func6
    (witness_row_at (enc := enc) (C := Tryd.checked) false (World.laidAll Tryd.prog os Rows.againRow.laid) #[.string ⟨#[]⟩, .int .i64 1, .int .i64 1] (World.laidAll_os _ _ _) (by kernel_rfl) (by kernel_rfl) (by kernel_rfl)
      (OpenSpec.preRow_of_cond 8 hx (by kernel_rfl) (fun k hk => by cases hk) (by kernel_rfl) (laid_met os _))) ?_
  intro W base args ds gs before hval hW _ _ _ _ hsh _
  exact contract H enc W base args ds gs before hval hW hsh

theorem said : Rows.AgainSaid :=
  OpenClaim.holds_of_cond 6 Tryd.f6 rfl rfl rfl rfl rfl rfl rfl ⟨rfl, rfl, rfl, rfl, rfl⟩ rfl rfl rfl rfl rfl (by kernel_rfl) Tryd.func6 (by kernel_rfl)
    (of_decide_eq_true (by kernel_rfl)) (by unfold Func.isWrapper; rw [if_neg (of_decide_eq_false (by kernel_rfl))]; exact ⟨rfl, rfl⟩)
    (fun os started H enc _ F => by rw [OpenClaim.pre_eq_preRow]; exact lifted os started H enc F)

theorem plain (f : FuncId) (fn : Func) (hf : Tryd.pinned.checked.prog.funcNamed Rows.againRow.func = some f) (hfn : Tryd.pinned.checked.prog.funcs[f]? = some fn) :
    false = Tryd.pinned.checked.prog.looks [] ∧ ∀ (j : Nat) t, fn.params[j]? = some t → Tryd.pinned.checked.prog.wantsStandIn t = false := by
  obtain rfl : f = 6 := Option.some.inj ((show Tryd.prog.funcNamed Rows.againRow.func = some 6 by kernel_rfl).symm.trans hf) |>.symm
  obtain rfl : fn = Tryd.f6 := (Option.some.inj (Tryd.func6.symm.trans hfn)).symm
  refine ⟨by kernel_rfl, fun j t ht => ?_⟩
  rw [Tryd.params6] at ht
  have hm := Array.mem_of_getElem? ht
  simp only [List.mem_toArray, List.mem_cons, List.not_mem_nil, or_false] at hm
  rcases hm with rfl | rfl | rfl
  · exact (show Tryd.prog.wantsStandIn 9 = false by kernel_rfl)
  · exact (show Tryd.prog.wantsStandIn 3 = false by kernel_rfl)
  · exact (show Tryd.prog.wantsStandIn 3 = false by kernel_rfl)
end Ag

/-- The card of Again. -/
theorem again_holds : Rows.AgainCardSaid :=
  Claim7.holds_tied_plain_at .later [] _ _ _ _ Ag.said (fun _ h => by cases h) (by kernel_rfl) (fun _ h => by cases h) again_row_tie rfl ⟨rfl, rfl⟩ (by kernel_rfl) rfl Ag.plain (by kernel_rfl)
#print axioms again_holds
end Go.Proofs.YtoieklacpkahbaaDoor
