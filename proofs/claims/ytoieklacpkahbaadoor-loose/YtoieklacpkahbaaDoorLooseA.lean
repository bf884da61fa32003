/- Loose: what gap answers, in plain words. -/
import Derived.Test.YtoieklacpkahbaaDoorLayF
import Derived.Test.YtoieklacpkahbaaDoorPlainP
namespace Go.Proofs.YtoieklacpkahbaaDoor
open Go.RowKit
/-- What gap answers: blanks, at least one, at most ten. -/
def isGap (nl : Bool) (G : List UInt8) : Prop := (∀ c ∈ G, Sc.bl3 c = true) ∧ G ≠ [] ∧ G.length ≤ 10 ∧ (nl = false → 10 ∉ G)
theorem gap1 (b : Bool) : isGap b [32] := ⟨by simp [Sc.bl3], by simp, by simp, fun _ => by simp⟩
theorem gap_step {b : Bool} {G : List UInt8} (h : isGap b G) (hl : G.length ≤ 9) (c : UInt8) (hc : c = 9 ∨ c = 32 ∨ (c = 10 ∧ b = true)) : isGap b (G ++ [c]) := by
  obtain ⟨h1, h2, h3, h4⟩ := h
  refine ⟨fun x hx => ?_, by simp, by simp; omega, fun hb hx => ?_⟩
  · rcases List.mem_append.1 hx with hx | hx
    · exact h1 x hx
    · rw [List.mem_singleton] at hx
      subst hx
      rcases hc with rfl | rfl | ⟨rfl, _⟩ <;> rfl
  · rcases List.mem_append.1 hx with hx | hx
    · exact h4 hb hx
    · rw [List.mem_singleton] at hx
      rcases hc with h | h | ⟨_, h⟩
      · rw [h] at hx; cases hx
      · rw [h] at hx; cases hx
      · rw [hb] at h; cases h
theorem bsnoc (G : List UInt8) (c : UInt8) : (⟨G.toArray⟩ : ByteArray) ++ ⟨#[c]⟩ = ⟨(G ++ [c]).toArray⟩ := by
  apply ByteArray.ext
  simp
theorem conv1 (wr : World) (c : UInt8) : (convert 46 9 (.slice (some ⟨wr.heap.size, 0, none⟩) 1 1)).run Tryd.prog (wr.alloc (Obj.cells #[.int .u8 c.toNat] 5)) = .ok (.string ⟨#[c]⟩) (wr.alloc (Obj.cells #[.int .u8 c.toNat] 5)) :=
  run_convert_bytes_back (P := Tryd.prog) (wr.alloc (Obj.cells #[.int .u8 c.toNat] 5)) 46 9 5 ⟨wr.heap.size, 0, none⟩ 1 [c] Tryd.underlying46 (by kernel_rfl) Tryd.underlying9 (fun j hj => by
    have hj : j = 0 := by simpa using hj
    subst hj
    simp [Addr.add])
end Go.Proofs.YtoieklacpkahbaaDoor
