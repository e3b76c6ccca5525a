/- Stage 6: a letter is taken out. -/
import Derived.Test.YtpmfgjhkdokcbaaPoC
import Derived.Test.YtpmfgjhkdokcbaaStC
namespace Go.Proofs.Ytpmfgjhkdokcbaa
open Go.RowKit
set_option linter.unusedVariables false
set_option maxRecDepth 100000 in
set_option maxHeartbeats 1000000 in
theorem Delete_any (g n c : Nat) (L : List Lt) (k : Nat) (w : World) (ho : OwnK Lt.cells 3 33 w (.slice (some ⟨g, 0, none⟩) n c) L) (hk : k < n) (hn : n ≤ 512) :
    Calls Try.prog 32 #[.slice (some ⟨g, 0, none⟩) n c, .int .i64 k, .int .i64 (k + 1)] w fun e w' =>
      e = .returned (.slice (some ⟨g, 0, none⟩) (n - 1) c) ∧ w.grownBy w' (some g) ∧ OwnK Lt.cells 3 33 w' (.slice (some ⟨g, 0, none⟩) (n - 1) c) (L.take k ++ L.drop (k + 1)) := by
  obtain ⟨i0, hi, hz0, hz1, hz2⟩ := info_parts info_lt
  have hnc : n ≤ c := by obtain ⟨_, _, _, h, _⟩ := ho.parts; exact h
  have hcm : c ≤ 9223372036854775807 := by obtain ⟨_, _, _, _, h, _⟩ := ho.parts; exact h
  have i1 : (k : Int) < n := by omega
  have i2 : (n : Int) ≤ c := by omega
  have i3 : (n : Int) ≤ 512 := by omega
  have i4 : (0 : Int) ≤ k := by omega
  have i5 : (k : Int) + 1 ≤ n := by omega
  have i6 : ((k : Int) == (k : Int) + 1) = false := by simp; omega
  have q1 : k ≤ c := by omega
  have q2 : k + 1 ≤ c := by omega
  have q3 : k + 1 ≤ n := by omega
  have i7 : (0 : Int) ≤ (k : Int) + 1 := by omega
  obtain ⟨ad, had, hor⟩ : ∃ ad : Addr, (if c = k + 1 then some (⟨g, 0, none⟩ : Addr) else some ⟨g, (k + 1) * 3, none⟩) = some ad ∧ (n - (k + 1) = 0 ∨ ad = ⟨g, (k + 1) * 3, none⟩) := by
    by_cases hc : c = k + 1
    · exact ⟨_, if_pos hc, .inl (by omega)⟩
    · exact ⟨_, if_neg hc, .inr rfl⟩
  obtain ⟨w1, hap, g1, o1⟩ := run_del_k (P := Try.prog) w.drew 40 40 33 i0 Lt.len Lt.ones Try.underlying40 hi hz1 ho.drew k (k + 1) (by omega) q3 ad (n - (k + 1)) (c - (k + 1)) rfl hor
  rw [show k + (n - (k + 1)) = n - 1 by omega] at hap o1
  obtain ⟨w2, hcl, g2, o2⟩ := run_clear_own (P := Try.prog) w1 40 33 0 _ Lt.len Try.underlying40 Try.zeroValue33 (fun v hv => Lt.ones ⟨0, 0, ⟨#[]⟩⟩ v hv) rfl o1 1 (c - (n - 1)) (by omega) (by omega)
  have G1 := Lib.hid (grow_same (grow_drew w g1) g2)
  have O2 := Lib.hid o2
  have q4 : n - (n - 1) = 1 := by omega
  have q5 : n - 1 ≤ n := by omega
  have q6 : n - 1 ≤ c := by omega
  have q7 : ((n - 1 : Nat) : Int) = (n : Int) - 1 := by omega
  clear g1 g2 o1 o2 ho hor
  go_enter Try.func32, Try.ntmps32
  go_wp2
  have HCL := Lib.hid hcl
  have HAP := Lib.hid hap
  clear hcl hap
  go_region_law (((with_reducible show (if Region.wanted (Oper.mk _ (Op.call { callee := .builtin .append, args := _, argTypes := _ }) _ _ _ _) _ = true then _ else _)); refine step_append_run (.tmp 22) (.tmp 25) 40 (by with_reducible rfl) _ _ _ rfl rfl HAP.out rfl ?_))
  all_goals
    have hcl := HCL.out
    go_wp2
    go_ret
    exact ⟨rfl, G1.out, O2.out⟩
end Go.Proofs.Ytpmfgjhkdokcbaa
