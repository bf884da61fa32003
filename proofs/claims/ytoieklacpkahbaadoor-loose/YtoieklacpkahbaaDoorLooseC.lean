/- Loose: the walk of gap, of a number that is none or more. -/
import Derived.Test.YtoieklacpkahbaaDoorLooseA
namespace Go.Proofs.YtoieklacpkahbaaDoor
open Go.RowKit
set_option maxRecDepth 20000 in
set_option maxHeartbeats 8000000 in
theorem gap_pos (n : Int) (hn : ¬ n < 0) (h1 : -9223372036854775808 ≤ n) (h2 : n ≤ 9223372036854775807) (b : Bool) (w : World) :
    Calls Tryd.prog 34 #[.int .i64 n, .bool b] w fun e w' => (∃ G, e = .returned (.string ⟨G.toArray⟩) ∧ isGap b G) ∧ Below w.heap.size w w' := by
  obtain ⟨k0, rfl⟩ : ∃ k : Nat, n = k := ⟨n.toNat, by omega⟩
  go_enter Tryd.func34, Tryd.ntmps34
  go_wp2
  go_loopw [0, 5] (fun x y wr => ∃ (k : Nat) (G : List UInt8), (k : Int) ≤ 9223372036854775807 ∧ x = .int .i64 k ∧ y = .string ⟨G.toArray⟩ ∧ G.length ≤ 9 ∧ Hid (isGap b G) ∧ Below w.heap.size w wr) (fun x _ _ => (intOf x).toNat)
  case atStart => exact ⟨k0, [32], by omega, rfl, rfl, by simp, hide (gap1 b), Below.refl _ _⟩
  case round =>
    obtain ⟨k, G, g1, rfl, rfl, g2, HG, hb⟩ := hrel
    by_cases hk : k = 0
    · subst hk
      go_wp2
      go_ret
      exact ⟨⟨G, rfl, HG.out⟩, hb⟩
    · have hkp : (0 : Int) < k := by omega
      have hz := wbsize G
      have A9 := gap_step HG.out g2 9 (.inl rfl)
      have A32 := gap_step HG.out g2 32 (.inr (.inl rfl))
      have A10 := fun hb1 : b = true => gap_step HG.out g2 10 (.inr (.inr ⟨rfl, hb1⟩))
      have E9 := hide A9
      have E32 := hide A32
      have E10 := hide A10
      have hc9 : (convert 46 9 (.slice (some ⟨wr.heap.size, 0, none⟩) 1 1)).run Tryd.prog (wr.alloc (Obj.cells #[.int .u8 9] 5)) = .ok (.string ⟨#[9]⟩) (wr.alloc (Obj.cells #[.int .u8 9] 5)) := conv1 wr 9
      have hc10 : (convert 46 9 (.slice (some ⟨wr.heap.size, 0, none⟩) 1 1)).run Tryd.prog (wr.alloc (Obj.cells #[.int .u8 10] 5)) = .ok (.string ⟨#[10]⟩) (wr.alloc (Obj.cells #[.int .u8 10] 5)) := conv1 wr 10
      have z9 : ((⟨G.toArray⟩ : ByteArray) ++ ⟨#[9]⟩).size = G.length + 1 := by rw [ByteArray.size_append, hz]; rfl
      have z10 : ((⟨G.toArray⟩ : ByteArray) ++ ⟨#[10]⟩).size = G.length + 1 := by rw [ByteArray.size_append, hz]; rfl
      have z32 : ((⟨G.toArray⟩ : ByteArray) ++ ⟨#[32]⟩).size = G.length + 1 := by rw [ByteArray.size_append, hz]; rfl
      have hb9 := hide (hb.alloc hb.size (Obj.cells #[.int .u8 9] 5))
      have hb10 := hide (hb.alloc hb.size (Obj.cells #[.int .u8 10] 5))
      clear A9 A32 A10
      have HX9 : Hid ((⟨G.toArray⟩ : ByteArray) ++ ⟨#[9]⟩ = ⟨(G ++ [9]).toArray⟩) := hide (bsnoc G 9)
      have HX10 : Hid ((⟨G.toArray⟩ : ByteArray) ++ ⟨#[10]⟩ = ⟨(G ++ [10]).toArray⟩) := hide (bsnoc G 10)
      have HX32 : Hid ((⟨G.toArray⟩ : ByteArray) ++ ⟨#[32]⟩ = ⟨(G ++ [32]).toArray⟩) := hide (bsnoc G 32)
      generalize (⟨G.toArray⟩ : ByteArray) = GB at *
      have hm1 : GB.size ≤ 9 := by omega
      cases k1 : ((k : Int) % 3 == 1) with
      | true =>
        by_cases hl : G.length = 9
        · have hl' : (9 : Int) < (G.length : Int) + 1 := by omega
          go_wp2
          go_ret
          exact ⟨⟨G ++ [9], by first | (rw [← HX9.out]; done) | (rw [← HX9.out]; rfl) | (rw [HX9.out]; done) | (rw [HX9.out]; rfl), E9.out⟩, hb9.out⟩
        · have hl' : ¬ (9 : Int) < (G.length : Int) + 1 := by omega
          go_wp2
          go_roundw
          case rel => exact ⟨k / 3, G ++ [9], by omega, by go_num, by first | (rw [← HX9.out]; done) | (rw [← HX9.out]; rfl) | (rw [HX9.out]; done) | (rw [HX9.out]; rfl), by simp; omega, E9, hb9.out⟩
          case measure => simp [intOf]; omega
      | false =>
        cases k2 : (((k : Int) % 3 == 2) && b) with
        | true =>
          have hbt : b = true := by simp at k2; exact k2.2
          have k3 : ((k : Int) % 3 == 2) = true := by simp at k2; simpa using k2.1
          have E10b := hide (E10.out hbt)
          subst hbt
          clear k2
          by_cases hl : G.length = 9
          · have hl' : (9 : Int) < (G.length : Int) + 1 := by omega
            go_wp2
            go_ret
            exact ⟨⟨G ++ [10], by first | (rw [← HX10.out]; done) | (rw [← HX10.out]; rfl) | (rw [HX10.out]; done) | (rw [HX10.out]; rfl), E10b.out⟩, hb10.out⟩
          · have hl' : ¬ (9 : Int) < (G.length : Int) + 1 := by omega
            go_wp2
            go_roundw
            case rel => exact ⟨k / 3, G ++ [10], by omega, by go_num, by first | (rw [← HX10.out]; done) | (rw [← HX10.out]; rfl) | (rw [HX10.out]; done) | (rw [HX10.out]; rfl), by simp; omega, E10b, hb10.out⟩
            case measure => simp [intOf]; omega
        | false =>
          by_cases hl : G.length = 9
          · have hl' : (9 : Int) < (G.length : Int) + 1 := by omega
            cases k3 : ((k : Int) % 3 == 2) with
            | true =>
              have hbf : b = false := by rw [k3] at k2; simpa using k2
              subst hbf
              go_wp2
              go_ret
              exact ⟨⟨G ++ [32], by first | (rw [← HX32.out]; done) | (rw [← HX32.out]; rfl) | (rw [HX32.out]; done) | (rw [HX32.out]; rfl), E32.out⟩, hb⟩
            | false =>
              go_wp2
              go_ret
              exact ⟨⟨G ++ [32], by first | (rw [← HX32.out]; done) | (rw [← HX32.out]; rfl) | (rw [HX32.out]; done) | (rw [HX32.out]; rfl), E32.out⟩, hb⟩
          · have hl' : ¬ (9 : Int) < (G.length : Int) + 1 := by omega
            cases k3 : ((k : Int) % 3 == 2) with
            | true =>
              have hbf : b = false := by rw [k3] at k2; simpa using k2
              subst hbf
              go_wp2
              go_roundw
              case rel => exact ⟨k / 3, G ++ [32], by omega, by go_num, by first | (rw [← HX32.out]; done) | (rw [← HX32.out]; rfl) | (rw [HX32.out]; done) | (rw [HX32.out]; rfl), by simp; omega, E32, hb⟩
              case measure => simp [intOf]; omega
            | false =>
              go_wp2
              go_roundw
              case rel => exact ⟨k / 3, G ++ [32], by omega, by go_num, by first | (rw [← HX32.out]; done) | (rw [← HX32.out]; rfl) | (rw [HX32.out]; done) | (rw [HX32.out]; rfl), by simp; omega, E32, hb⟩
              case measure => simp [intOf]; omega
end Go.Proofs.YtoieklacpkahbaaDoor
