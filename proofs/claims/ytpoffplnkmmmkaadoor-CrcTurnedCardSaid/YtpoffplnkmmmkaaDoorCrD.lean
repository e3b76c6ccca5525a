/- What the document's answer for layer 2 is: More and Sum; what the statements ask first: awake, joined. -/
import Derived.Test.YtpoffplnkmmmkaaDoorCrC
namespace Go.Proofs.YtpoffplnkmmmkaaDoor
open Go.RowKit
set_option linter.unusedVariables false
set_option maxRecDepth 100000 in
set_option maxHeartbeats 1000000 in
theorem refMore_any (x : BitVec 32) (s : ByteArray) (w : World) (hs : s.size ≤ maxLen) :
    Calls Tryd.prog 12 #[.int .u32 x.toNat, .string s] w fun e w' => e = .returned (.int .u32 (more x s.data.toList).toNat) ∧ w = w' := by
  unfold maxLen at hs
  have hs' : (s.size : Int) ≤ 9223372036854775807 := by omega
  have bx := u32_lt x
  obtain ⟨nx, hnx⟩ : ∃ nx, nx = ~~~ x := ⟨_, rfl⟩
  have hnot := not_u32 x
  rw [← hnx] at hnot
  have HNX := Lib.hid hnx
  have HNT := Lib.hid hnot
  clear hnx hs hnot
  go_enter Tryd.func12, Tryd.ntmps12
  go_wp2
  go_loop [5, 6] (fun r i => ∃ k : Nat, k ≤ s.size ∧ i = .int .i64 k ∧ r = .int .u32 (takes nx (s.data.toList.take k)).toNat) (fun _ i => s.size - (intOf i).toNat)
  case atStart => exact ⟨0, Nat.zero_le _, rfl, by show Value.int .u32 _ = .int .u32 (nx.toNat : Int); rw [HNT.out]⟩
  case round =>
    obtain ⟨k, hk, rfl, rfl⟩ := hrel
    by_cases hlt : k < s.size
    · have HT : Hid (takes nx (s.data.toList.take (k + 1)) = takeB (takes nx (s.data.toList.take k)) s[k]) := by
        have hl : k < s.data.toList.length := by rw [Array.length_toList]; exact hlt
        show _ = _
        rw [List.take_succ_eq_append_getElem hl, takes, List.foldl_append, List.foldl_cons, List.foldl_nil, ← takes]
        rfl
      go_wp2_with fail
      refine (taken_any _ _ _).mono ?_
      rintro e w' ⟨rfl, rfl⟩
      go_wp2
      refine ⟨⟨k + 1, by omega, by go_num, by rw [HT.out]⟩, by simp [intOf]; omega⟩
    · obtain rfl : k = s.size := by omega
      have ht : s.data.toList.take s.size = s.data.toList := List.take_of_length_le (by rw [Array.length_toList]; exact Nat.le_refl _)
      rw [ht]
      obtain ⟨z, hz⟩ : ∃ z, z = takes nx s.data.toList := ⟨_, rfl⟩
      obtain ⟨nz, hnz⟩ : ∃ nz, nz = ~~~ z := ⟨_, rfl⟩
      have hnot2 := not_u32 z
      rw [← hnz] at hnot2
      rw [← hz]
      have HE : Hid (more x s.data.toList = nz) := by show _ = _; rw [hnz, hz, HNX.out]; rfl
      have HN2 := Lib.hid hnot2
      have bz := u32_lt z
      clear hz hnz ht hnot2
      go_wp2
      go_ret
      exact ⟨by rw [HE.out, HN2.out]; rfl, rfl⟩
theorem refSum_any (s : ByteArray) (w : World) (hs : s.size ≤ maxLen) :
    Calls Tryd.prog 10 #[.string s] w fun e w' => e = .returned (.int .u32 (more 0#32 s.data.toList).toNat) ∧ w = w' := by
  have h := refMore_any 0#32 s w hs
  have HH := Lib.hid h
  clear h
  go_enter Tryd.func10, Tryd.ntmps10
  go_wp2_with fail
  refine HH.out.mono ?_
  rintro e w' ⟨rfl, rfl⟩
  go_wp2
  go_ret
  exact ⟨rfl, rfl⟩
theorem crc_check : more 0#32 [49, 50, 51, 52, 53, 54, 55, 56, 57] = 0xcbf43926#32 := by decide +kernel
theorem crc_none (x : BitVec 32) : more x [] = x := by show ~~~ (~~~ x) = x; exact BitVec.not_not
/-- All parts as one text; no if it is longer than is played. -/
def Joined (l : List ByteArray) (w : World) (e : Ending) (w' : World) : Prop :=
  ∃ (t : ByteArray) (ok : Bool), e = .returned (.tuple #[.string t, .bool ok]) ∧ w = w' ∧ (ok = true → t = ⟨(allB l).toArray⟩ ∧ l.length ≤ 300 ∧ (allB l).length ≤ 20000)
theorem allB_snoc (l : List ByteArray) (k : Nat) (h : k < l.length) : allB (l.take (k + 1)) = allB (l.take k) ++ l[k].data.toList := by
  unfold allB
  rw [List.take_succ_eq_append_getElem h, List.flatMap_append]
  simp only [List.flatMap_cons, List.flatMap_nil, List.append_nil]
theorem len_list (s : ByteArray) : s.data.toList.length = s.size := by rw [Array.length_toList]; rfl
theorem app_str (x : List UInt8) (s : ByteArray) : (⟨x.toArray⟩ : ByteArray) ++ s = ⟨(x ++ s.data.toList).toArray⟩ := by
  obtain ⟨⟨l⟩⟩ := s
  exact ByteArray.mk_append_mk x l
set_option maxRecDepth 100000 in
set_option maxHeartbeats 1000000 in
theorem joined_any (v : Value) (l : List ByteArray) (w : World) (hr : RowAt w v (l.map Value.string)) (hs : ∀ s ∈ l, s.size ≤ maxLen) (hl : l.length ≤ maxLen) :
    Calls Tryd.prog 7 #[v] w (Joined l w) := by
  obtain ⟨a, c, rfl⟩ := hr.len
  rw [List.length_map] at hr ⊢
  unfold maxLen at hl
  have hl' : (l.length : Int) ≤ 9223372036854775807 := by omega
  have HS := Lib.hid hs
  clear hl hs
  go_enter Tryd.func7, Tryd.ntmps7
  go_wp2
  go_loop [4, 9] (fun t i => ∃ k : Nat, k ≤ l.length ∧ k ≤ 201 ∧ i = .int .i64 k ∧ t = .string ⟨(allB (l.take k)).toArray⟩ ∧ (allB (l.take k)).length ≤ 12288) (fun _ i => l.length - (intOf i).toNat)
  case atStart => exact ⟨0, Nat.zero_le _, Nat.zero_le _, rfl, rfl, by simp [allB]⟩
  case round =>
    obtain ⟨k, hk, hk2, rfl, rfl, hb⟩ := hrel
    have hbi : ((allB (l.take k)).length : Int) ≤ 12288 := by omega
    by_cases hlt : k < l.length
    · obtain ⟨bb, off, rfl, hcell⟩ := row_str hr hlt
      have hsz := HS.out l[k] (List.getElem_mem hlt)
      unfold maxLen at hsz
      by_cases h1 : 200 < k
      · have h1' : (200 : Int) < k := by omega
        go_wp2
        go_ret2
        exact ⟨_, _, rfl, rfl, fun h => by cases h⟩
      have h1' : decide ((200 : Int) < k) = false := by simp; omega
      by_cases h2 : 4096 < l[k].size
      · have h2' : (4096 : Int) < l[k].size := by omega
        go_wp2
        go_ret2
        exact ⟨_, _, rfl, rfl, fun h => by cases h⟩
      have h2' : decide ((4096 : Int) < l[k].size) = false := by simp; omega
      by_cases h3 : 8192 < (allB (l.take k)).length
      · have h3' : (8192 : Int) < (allB (l.take k)).length := by omega
        go_wp2
        go_ret2
        exact ⟨_, _, rfl, rfl, fun h => by cases h⟩
      have h3' : decide ((8192 : Int) < (allB (l.take k)).length) = false := by simp; omega
      have HT := Lib.hid (allB_snoc l k hlt)
      have HL : Hid ((allB (l.take (k + 1))).length ≤ 12288) := by
        show _ ≤ _
        rw [HT.out, List.length_append, len_list]; omega
      have hap := app_str (allB (l.take k)) l[k]
      rw [← HT.out] at hap
      have h2i : (l[k].size : Int) ≤ 4096 := by omega
      clear hb h3
      go_wp2
      refine ⟨⟨k + 1, by omega, by omega, by go_num, rfl, HL.out⟩, by simp [intOf]; omega⟩
    · obtain rfl : k = l.length := by omega
      have ht : l.take l.length = l := List.take_length
      rw [ht] at hb hbi ⊢
      go_wp2
      go_ret2
      exact ⟨_, _, rfl, rfl, fun _ => ⟨rfl, by omega, by omega⟩⟩
set_option maxRecDepth 100000 in
set_option maxHeartbeats 1000000 in
theorem awake_any (w : World) (hm : Mv w) :
    Calls Tryd.prog 8 #[] w fun e w' => e = .returned (.bool true) ∧ w.grownBy w' none := by
  go_enter Tryd.func8, Tryd.ntmps8
  go_wp2_with fail
  refine (Sum_any _ [⟨#[49, 50, 51, 52]⟩, ⟨#[]⟩, ⟨#[53, 54, 55, 56, 57]⟩] _ (hm.kept (World.grownBy_alloc _ _ _)) (RowAt.lit _ _ _ _ _ rfl) (by decide) (by decide)).mono ?_
  rintro e w1 ⟨rfl, rfl⟩
  have e1 : (more 0#32 (allB [⟨#[49, 50, 51, 52]⟩, ⟨#[]⟩, ⟨#[53, 54, 55, 56, 57]⟩])).toNat = 3421780262 := congrArg BitVec.toNat crc_check
  rw [e1]
  have m1 := hm.kept (World.grownBy_alloc w (.cells #[.string ⟨#[49, 50, 51, 52]⟩, .string ⟨#[]⟩, .string ⟨#[53, 54, 55, 56, 57]⟩] 9) none)
  go_wp2_with fail
  refine (Sum_any _ [] _ m1 ⟨none, 0, rfl, .inl rfl⟩ (by simp) (by simp)).mono ?_
  rintro e w2 ⟨rfl, rfl⟩
  rw [show (more 0#32 (allB [])).toNat = 0 from rfl]
  go_wp2_with fail
  refine (More_any 0xcbf43926#32 _ [] _ m1 ⟨none, 0, rfl, .inl rfl⟩ (by simp) (by simp)).mono ?_
  rintro e w3 ⟨rfl, rfl⟩
  rw [show (more 0xcbf43926#32 (allB [])).toNat = 3421780262 from rfl]
  go_wp2
  go_ret
  exact ⟨rfl, World.grownBy_alloc _ _ _⟩
end Go.Proofs.YtpoffplnkmmmkaaDoor
