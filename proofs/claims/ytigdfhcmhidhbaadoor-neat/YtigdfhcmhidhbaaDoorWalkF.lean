/- Walks: leadsElement. -/
import Derived.Test.YtigdfhcmhidhbaaDoorOwn
import Derived.Test.YtigdfhcmhidhbaaDoorPlainD
namespace Go.Proofs.YtigdfhcmhidhbaaDoor
open Go.RowKit

def aggOf (t : Sc.Tok) : Value := .agg #[.int .i64 t.kind, .string ⟨t.text.toArray⟩, .int .i64 t.place, .bool t.behind]

set_option maxHeartbeats 400000 in
theorem leads_nil (p : Sc.Tok) (ao : Option Addr) (n c : Nat) (w : World) (hn : n = 0) :
    Calls Tryd.prog 42 #[.agg #[.int .i64 p.kind, .string ⟨p.text.toArray⟩, .int .i64 p.place, .bool p.behind], .slice ao n c] w fun e w' => e = .returned (.bool false) ∧ Below w.heap.size w w' := by
  subst hn
  go_enter Tryd.func42, Tryd.ntmps42
  go_wp2
  go_ret
  exact ⟨rfl, (Below.refl _ _).alloc (Nat.le_refl _) _⟩

theorem ret_bool {a b : Bool} (h : a = b) : Ending.returned (.bool a) = .returned (.bool b) := by rw [h]
theorem head_ne (l : List UInt8) (h : 0 < (⟨l.toArray⟩ : ByteArray).size) : (((⟨l.toArray⟩ : ByteArray)[0].toNat : Int) != 64) = !(l.headD 0 == 64) := by
  match l, h with
  | [], h => exact absurd h (by decide)
  | c :: r, h =>
    have e : (⟨(c :: r).toArray⟩ : ByteArray)[0] = c := rfl
    rw [e, List.headD_cons]
    by_cases hc : c = 64
    · subst hc; rfl
    · have h1 : ¬ ((c.toNat : Int) = 64) := fun x => hc (UInt8.toNat_inj.1 (by show c.toNat = 64; omega))
      have h2 : (c == 64) = false := by simpa using hc
      rw [h2]; simpa using h1
theorem lead1 {p t : Sc.Tok} (h3 : (t.kind == 3) = true) : Sc.leadsB p t = false := by
  unfold Sc.leadsB; rw [if_pos (by simpa using h3)]
theorem lead2 {p t : Sc.Tok} (h3 : (t.kind == 3) = false) (h5 : (t.kind == 5) = true) : Sc.leadsB p t = false := by
  unfold Sc.leadsB; rw [if_neg (by simpa using h3), if_pos (by simpa using h5)]
theorem lead3 {p t : Sc.Tok} (h3 : (t.kind == 3) = false) (h5 : (t.kind == 5) = false) (h1 : (t.kind == 1) = true) (hp : p.text = [44]) : Sc.leadsB p t = !(t.text.headD 0 == 64) := by
  unfold Sc.leadsB; rw [if_neg (by simpa using h3), if_neg (by simpa using h5), if_pos (by simpa using h1), hp]; rfl
theorem lead4 {p t : Sc.Tok} (h3 : (t.kind == 3) = false) (h5 : (t.kind == 5) = false) (h1 : (t.kind == 1) = true) (hp : ¬ p.text = [44]) : Sc.leadsB p t = true := by
  unfold Sc.leadsB; rw [if_neg (by simpa using h3), if_neg (by simpa using h5), if_pos (by simpa using h1)]; simp [hp]
theorem lead5 {p t : Sc.Tok} (h3 : (t.kind == 3) = false) (h5 : (t.kind == 5) = false) (h1 : (t.kind == 1) = false) : Sc.leadsB p t = true := by
  unfold Sc.leadsB; rw [if_neg (by simpa using h3), if_neg (by simpa using h5), if_neg (by simpa using h1)]

set_option maxHeartbeats 400000 in
theorem leads_some (p t : Sc.Tok) (g off n c : Nat) (w : World) (hn : 0 < n) (hn2 : n ≤ 4096) (hg : g < w.heap.size) (hne : 0 < t.text.length)
    (c0 : w.cell? ⟨g, off, none⟩ = some (.int .i64 t.kind)) (c1 : w.cell? ⟨g, off + 1, none⟩ = some (.string ⟨t.text.toArray⟩))
    (c2 : w.cell? ⟨g, off + 2, none⟩ = some (.int .i64 t.place)) (c3 : w.cell? ⟨g, off + 3, none⟩ = some (.bool t.behind)) :
    Calls Tryd.prog 42 #[.agg #[.int .i64 p.kind, .string ⟨p.text.toArray⟩, .int .i64 p.place, .bool p.behind], .slice (some ⟨g, off, none⟩) n c] w fun e w' => e = .returned (.bool (Sc.leadsB p t)) ∧ Below w.heap.size w w' := by
  go_enter Tryd.func42, Tryd.ntmps42
  go_wp2
  · have h3 : (t.kind == 3) = true := by assumption
    go_ret
    exact ⟨by rw [lead1 h3]; rfl, ((Below.refl _ _).alloc (Nat.le_refl _) _).alloc (by simp) _⟩
  · have h3 : (t.kind == 3) = false := by assumption
    have h5 : (t.kind == 5) = true := by assumption
    go_ret
    exact ⟨by rw [lead2 h3 h5]; rfl, ((Below.refl _ _).alloc (Nat.le_refl _) _).alloc (by simp) _⟩
  · have h3 : (t.kind == 3) = false := by assumption
    have h5 : (t.kind == 5) = false := by assumption
    have h1 : (t.kind == 1) = true := by assumption
    have hp : p.text = [44] := by assumption
    go_ret
    refine ⟨?_, ((Below.refl _ _).alloc (Nat.le_refl _) _).alloc (by simp) _⟩
    rw [lead3 h3 h5 h1 hp]
    exact ret_bool (head_ne _ _)
  · have h3 : (t.kind == 3) = false := by assumption
    have h5 : (t.kind == 5) = false := by assumption
    have h1 : (t.kind == 1) = true := by assumption
    have hp : ¬ p.text = [44] := by assumption
    go_ret
    exact ⟨by rw [lead4 h3 h5 h1 hp]; rfl, ((Below.refl _ _).alloc (Nat.le_refl _) _).alloc (by simp) _⟩
  · have h3 : (t.kind == 3) = false := by assumption
    have h5 : (t.kind == 5) = false := by assumption
    have h1 : (t.kind == 1) = false := by assumption
    go_ret
    exact ⟨by rw [lead5 h3 h5 h1]; rfl, ((Below.refl _ _).alloc (Nat.le_refl _) _).alloc (by simp) _⟩
end Go.Proofs.YtigdfhcmhidhbaaDoor
