/- The document's answers: Join; what the statements ask first: many. -/
import Derived.Test.YtkmpcncehicpmaaCvE
namespace Go.Proofs.Ytkmpcncehicpmaa
open Go.RowKit
set_option linter.unusedVariables false
theorem Try.info07_uint8 : (Try.prog.info? 5).map (fun i => (i.zero, i.size, i.bytes)) = some (some (.int .u8 0), 1, 1) := by kernel_rfl
theorem allB_snoc (l : List ByteArray) (k : Nat) (hk : k < l.length) : allB (l.take (k + 1)) = allB (l.take k) ++ (l.getD k ⟨#[]⟩).data.toList := by
  unfold allB
  rw [List.take_succ_eq_append_getElem hk, List.flatMap_append, List.getD, List.getElem?_eq_getElem hk]
  simp only [List.flatMap_cons, List.flatMap_nil, List.append_nil, Option.getD_some]
theorem allB_take_le (l : List ByteArray) (k : Nat) : (allB (l.take k)).length ≤ (allB l).length := by
  have h : allB l = allB (l.take k) ++ allB (l.drop k) := by
    unfold allB
    rw [← List.flatMap_append, List.take_append_drop]
  rw [h, List.length_append]; omega
set_option maxRecDepth 100000 in
set_option maxHeartbeats 400000 in
theorem refJoin_any (v : Value) (l : List ByteArray) (w : World) (hr : RowAt w v (l.map Value.string)) (hl : l.length ≤ 1000000) (hb : (allB l).length ≤ 100000000) :
    Calls Try.prog 64 #[v] w fun e w' => e = .returned (.string ⟨(allB l).toArray⟩) ∧ w.grownBy w' none := by
  obtain ⟨i0, hi, hz0, hz1, hz2⟩ := info_parts Try.info07_uint8
  obtain ⟨p, c, rfl⟩ := row_form hr
  have hli : (l.length : Int) ≤ 1000000 := by omega
  have hnil : allB ([] : List ByteArray) = [] := rfl
  go_enter Try.func64, Try.ntmps64
  go_wp2
  go_loopw [3, 4] (fun out i wr => ∃ k : Nat, k ≤ l.length ∧ i = .int .i64 k ∧ wr.ownsRow 0 5 1 out (allB (l.take k)).length ((allB (l.take k)).map c8) ∧ w.grownBy wr none ∧ NewBlk w out) (fun _ i _ => l.length - (intOf i).toNat)
  case atStart => exact ⟨0, Nat.zero_le _, rfl, by simpa [hnil] using own_empty w 5 1, World.grownBy_alloc _ _ _, newblk_at _ _ _ _ (Nat.le_refl _) _⟩
  case round =>
    obtain ⟨k, hk, rfl, ho, hg, hn⟩ := hrel
    by_cases hlt : k < l.length
    · obtain ⟨b1, o1, rfl, c1, _⟩ := row_string (hr.kept hg) rfl hlt
      have HS := Lib.hid (allB_snoc l k hlt)
      have hle := allB_take_le l (k + 1)
      rw [HS.out, List.length_append] at hle
      obtain ⟨x, hx⟩ : ∃ x, x = l.getD k ⟨#[]⟩ := ⟨_, rfl⟩
      rw [← hx] at c1 hle
      have HX := Lib.hid hx
      have hki : (k : Int) < l.length := by omega
      have hxs : x.data.toList.length = x.size := by rw [Array.length_toList]; rfl
      clear hx
      go_wp2_with (at_builtin; refine wpList_append_str _ rfl _ _ 49 9 rfl 5 i0 Try.underlying49 Try.underlying9 hi hz0 hz1 hz2 _ _ _ rfl ho _ rfl (by show _ ≤ 2^63-1; omega) (by omega) ?_)
      intro v3 w3 ho3 hg3 hm3
      go_wp2
      go_roundw
      case rel =>
        refine ⟨k + 1, by omega, by go_num, ?_, grow_newblk hg hn hg3, hn.moved hg.size hm3⟩
        rw [HS.out, ← HX.out, List.length_append, hxs]
        rw [List.map_append]
        exact ho3
      case measure => simp [intOf]; omega
    · obtain rfl : k = l.length := by omega
      have hT : l.take l.length = l := List.take_length
      rw [hT] at ho
      have hconv := run_str_buf (P := Try.prog) wr Try.underlying49 Try.underlying5 Try.underlying9 ho
      go_wp2
      go_ret
      exact ⟨rfl, hg⟩
def ManyE (l : List ByteArray) (e : Ending) : Prop := e = .returned (.bool true) ∨ (e = .returned (.bool false) ∧ l.length + (allB l).length ≤ 8192)
set_option maxRecDepth 100000 in
set_option maxHeartbeats 400000 in
theorem many07_any (v : Value) (l : List ByteArray) (w : World) (hr : RowAt w v (l.map Value.string)) (hl : l.length ≤ maxLen) (hs : ∀ s ∈ l, s.size ≤ maxLen) :
    Calls Try.prog 61 #[v] w fun e w' => ManyE l e ∧ w = w' := by
  obtain ⟨p, c, rfl⟩ := row_form hr
  have il : (l.length : Int) ≤ 9223372036854775807 := by unfold maxLen at hl; omega
  have HSZ := Lib.hid hs
  clear hl hs
  go_enter Try.func61, Try.ntmps61
  go_wp2
  go_loop [3, 8] (fun n i => ∃ k N : Nat, k ≤ l.length ∧ i = .int .i64 k ∧ n = .int .i64 N ∧ N ≤ 8192 ∧ k + (allB (l.take k)).length = N) (fun _ i => l.length - (intOf i).toNat)
  case atStart => exact ⟨0, 0, Nat.zero_le _, rfl, rfl, Nat.zero_le _, rfl⟩
  case round =>
    obtain ⟨k, N, hk, rfl, rfl, hN, hsum⟩ := hrel
    have HM := Lib.hid hsum
    by_cases hlt : k < l.length
    · obtain ⟨b1, o1, rfl, c1, _⟩ := row_string hr rfl hlt
      have hsz := HSZ.out (l.getD k ⟨#[]⟩) (by rw [List.getD, List.getElem?_eq_getElem hlt]; exact List.getElem_mem hlt)
      have HS := Lib.hid (allB_snoc l k hlt)
      obtain ⟨x, hx⟩ : ∃ x, x = l.getD k ⟨#[]⟩ := ⟨_, rfl⟩
      rw [← hx] at c1 hsz
      have hszi : (x.size : Int) ≤ 9223372036854775807 := by unfold maxLen at hsz; omega
      have HX := Lib.hid hx
      have hki : (k : Int) < l.length := by omega
      have hNi : (N : Int) ≤ 8192 := by omega
      obtain ⟨m, hm⟩ : ∃ m : Nat, m = min x.size 1048576 := ⟨_, rfl⟩
      have hmi : min (x.size : Int) 1048576 = (m : Int) := by omega
      have hm2 : (m : Int) ≤ 1048576 := by omega
      by_cases hgt : 8192 < N + (1 + m)
      · have d1 : decide ((8192 : Int) < (N : Int) + (1 + (m : Int))) = true := decide_eq_true (by omega)
        clear hx hsz hsum hm
        go_wp2
        refine bodyPost_ret (v := .bool true) ?_ ?_ ?_
        · simp [results, go_sem]
        · rfl
        · exact ⟨.inl rfl, rfl⟩
      · have d1 : decide ((8192 : Int) < (N : Int) + (1 + (m : Int))) = false := decide_eq_false (by omega)
        have HE : Hid (k + 1 + (allB (l.take (k + 1))).length = N + (1 + m)) := by
          show _ = _
          have e : x.data.toList.length = x.size := by rw [Array.length_toList]; rfl
          rw [HS.out, ← hx, List.length_append, e]
          omega
        have hle : N + (1 + m) ≤ 8192 := by omega
        clear hx hsz hsum hm
        go_wp2
        go_round
        case rel => exact ⟨k + 1, N + (1 + m), by omega, by go_num, by push_cast; rfl, hle, HE.out⟩
        case measure => simp [intOf]; omega
    · obtain rfl : k = l.length := by omega
      have HF : Hid (l.length + (allB l).length ≤ 8192) := by
        show _ ≤ _
        have := HM.out
        rw [List.take_length] at this
        omega
      go_wp2
      refine bodyPost_ret (v := .bool false) ?_ ?_ ?_
      · simp [results, go_sem]
      · rfl
      · exact ⟨.inr ⟨rfl, HF.out⟩, rfl⟩
end Go.Proofs.Ytkmpcncehicpmaa
