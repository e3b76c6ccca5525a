/- Stage 4: Seal, where a payload is too long. -/
import Derived.Test.YtljhghlginachaaDoorFrE
namespace Go.Proofs.YtljhghlginachaaDoor
open Go.RowKit
set_option linter.unusedVariables false
set_option maxRecDepth 100000 in
set_option maxHeartbeats 1000000 in
theorem Seal_long (v : Value) (l : List ByteArray) (w : World) (hr : RowAt w v (l.map Value.string)) (hl : l.length ≤ 8192) (hb : ∀ s ∈ l, s.size ≤ 1000000000) (hs : ∃ s ∈ l, 1048576 < s.size) :
    Calls Tryd.prog 11 #[v] w fun e w' => e = .returned (.tuple #[.string ⟨#[]⟩, .int .i64 4]) ∧ w.grownBy w' none := by
  obtain ⟨a, c, rfl⟩ := hr.len
  rw [List.length_map] at hr ⊢
  have hli : (l.length : Int) ≤ 8192 := by omega
  have HS := Lib.hid hs
  have HB := Lib.hid hb
  clear hs hb
  go_enter Tryd.func11, Tryd.ntmps11
  go_wp2
  go_loop [11] (fun i => ∃ k : Nat, k ≤ l.length ∧ i = .int .i64 k ∧ ∀ s ∈ l.take k, s.size ≤ 1048576) (fun i => l.length - (intOf i).toNat)
  case atStart => exact ⟨0, Nat.zero_le _, rfl, by simp⟩
  case round =>
    obtain ⟨k, hk, rfl, hall⟩ := hrel
    have HA := Lib.hid hall
    clear hall
    by_cases hlt : k < l.length
    · obtain ⟨bb, off, rfl, hcell⟩ := row_str hr hlt
      have hsz := HB.out l[k] (List.getElem_mem hlt)
      have hki : (k : Int) < l.length := by omega
      by_cases hbig : 1048576 < l[k].size
      · have h1 : decide ((1048576 : Int) < l[k].size) = true := decide_eq_true (by omega)
        clear hbig
        go_wp2
        refine bodyPost_ret (v := .tuple #[.string ⟨#[]⟩, .int .i64 4]) ?_ ?_ ?_
        · simp [results, go_sem]
        · rfl
        · exact ⟨rfl, grow_refl _ _⟩
      · have h1 : decide ((1048576 : Int) < l[k].size) = false := decide_eq_false (by omega)
        have HN : Hid (∀ s ∈ l.take (k + 1), s.size ≤ 1048576) := by
          intro s hs
          rw [List.take_succ_eq_append_getElem hlt, List.mem_append, List.mem_singleton] at hs
          rcases hs with hs | rfl
          · exact HA.out s hs
          · omega
        clear hbig
        go_wp2
        go_round
        case rel => exact ⟨k + 1, by omega, by go_num, HN.out⟩
        case measure => simp [intOf]; omega
    · exfalso
      obtain ⟨s, h1, h2⟩ := HS.out
      have := HA.out s (by rw [List.take_of_length_le (by omega)]; exact h1)
      omega
end Go.Proofs.YtljhghlginachaaDoor
