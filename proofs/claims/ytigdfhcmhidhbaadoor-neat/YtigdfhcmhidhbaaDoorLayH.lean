/- Walks: the program's styles: which one a list has. -/
import Derived.Test.YtigdfhcmhidhbaaDoorLayG
import Derived.Test.YtigdfhcmhidhbaaDoorPlainM
namespace Go.Proofs.YtigdfhcmhidhbaaDoor
open Go.RowKit
namespace Sc
/-- The atom that a list begins with, if it opens by a bracket alone. -/
def hdW (o : Tok) : List El → List UInt8
  | e :: _ => if o.text = [40] ∧ e.first.kind = 1 then e.first.text else []
  | [] => []
def pl2 : List El → Bool
  | _ :: e :: _ => !(e.first.kind == 5)
  | _ => false
end Sc

set_option maxHeartbeats 1000000 in
theorem tailOf_one (ao : Option Addr) (cap : Nat) (last : Int) (w : World) :
    Calls Tryd.prog 45 #[.slice ao 1 cap, .int .i64 last] w fun e w' => e = .returned (.int .i64 last) ∧ w' = w := by
  go_enter Tryd.func45, Tryd.ntmps45
  go_wp2
  go_ret
  exact ⟨rfl, rfl⟩
set_option maxHeartbeats 1000000 in
theorem tailOf_more (g off n cap : Nat) (last : Int) (w : World) (hn : 2 ≤ n) (bt : ByteArray) (bb : Bool) (h1 : w.cell? ⟨g, off + 6 + 1, none⟩ = some (.string bt)) (h3 : w.cell? ⟨g, off + 6 + 3, none⟩ = some (.bool bb)) (hb : bt.size ≤ 4096) :
    Calls Tryd.prog 45 #[.slice (some ⟨g, off, none⟩) n cap, .int .i64 last] w fun e w' => e = .returned (.int .i64 (if bb then 1 + (bt.size : Int) else 0)) ∧ w' = w := by
  have hn1 : ((n : Int) == 1) = false := beq_eq_false_iff_ne.2 (by omega)
  cases bb with
  | true =>
    go_enter Tryd.func45, Tryd.ntmps45
    go_wp2
    go_ret
    exact ⟨rfl, rfl⟩
  | false =>
    go_enter Tryd.func45, Tryd.ntmps45
    go_wp2
    go_ret
    exact ⟨rfl, rfl⟩

set_option maxHeartbeats 1000000 in
theorem second_any (t : Sc.Tok) (p f : Int) (v : Value) (ins : List Sc.El) (A : Nat → Prop) (w : World) (h : RowV A w ins.length v (ElsAt A w ins)) :
    Calls Tryd.prog 116 #[.agg #[.int .i64 t.kind, .string ⟨t.text.toArray⟩, .int .i64 p, .bool t.behind, v, .int .i64 f]] w fun e w' => e = .returned (.bool (Sc.pl2 ins)) ∧ Below w.heap.size w w' := by
  obtain ⟨ao, cap, rfl, hcap⟩ := h.shape
  generalize (⟨t.text.toArray⟩ : ByteArray) = tt
  by_cases hlt : 1 < ins.length
  · obtain ⟨g, cap', pp, vo, vn, vc, e1, -, hg, hcp, -, c0, c1, c2, c3, c4, c5⟩ := h.cells 1 hlt
    injection e1 with e1 e2 e3
    subst e1 e3
    have hX : Sc.pl2 ins = !(ins[1].first.kind == 5) := by
      match ins, hlt with
      | _ :: e :: _, _ => rfl
    rw [hX]
    clear hX
    generalize ins[1].first.kind = k1 at *
    generalize (⟨ins[1].first.text.toArray⟩ : ByteArray) = b1 at *
    generalize ins[1].first.behind = q1 at *
    generalize ins[1].fl = f1 at *
    have hm : (1 : Int) < ins.length := by omega
    go_enter Tryd.func116, Tryd.ntmps116
    go_wp2_with (go_at_call 60; refine (is_any _ _ _ _ _ _ _ _).mono ?_; rintro e w1 ⟨rfl, rfl⟩)
    go_ret
    exact ⟨rfl, ((Below.refl _ _).alloc (Nat.le_refl _) _).alloc (by simp) _⟩
  · have hX : Sc.pl2 ins = false := by
      match ins, hlt with
      | [], _ => rfl
      | [_], _ => rfl
      | _ :: _ :: _, h => simp at h
    rw [hX]
    clear hX
    have hm : ¬ (1 : Int) < ins.length := by omega
    go_enter Tryd.func116, Tryd.ntmps116
    go_wp2
    go_ret
    exact ⟨rfl, ((Below.refl _ _).alloc (Nat.le_refl _) _)⟩
end Go.Proofs.YtigdfhcmhidhbaaDoor
