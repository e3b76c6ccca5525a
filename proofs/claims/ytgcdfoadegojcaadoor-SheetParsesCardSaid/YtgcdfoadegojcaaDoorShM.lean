/- Stage 3: all parts as one text. -/
import Derived.Test.YtgcdfoadegojcaaDoorShG
namespace Go.Proofs.YtgcdfoadegojcaaDoor
open Go.RowKit
set_option linter.unusedVariables false
theorem row_str {w : World} {a : Option Addr} {c : Nat} {l : List ByteArray} {k : Nat} (h : RowAt w (.slice a l.length c) (l.map Value.string)) (hk : k < l.length) :
    ∃ bb off, a = some ⟨bb, off, none⟩ ∧ w.cell? ⟨bb, off + k, none⟩ = some (.string l[k]) := by
  obtain ⟨a', c', e, h⟩ := h
  injection e with e1 e2 e3
  subst e1
  rcases h with h | ⟨b, off, rfl, hb, hc⟩
  · have : l = [] := by simpa using h
    subst this; simp at hk
  · exact ⟨b, off, rfl, by rw [hc k (by simpa using hk)]; simp [List.getElem?_eq_getElem hk]⟩
def Joined (l : List ByteArray) (w : World) (e : Ending) (w' : World) : Prop :=
  ∃ (t : ByteArray) (ok : Bool), e = .returned (.tuple #[.string t, .bool ok]) ∧ w = w' ∧ (ok = true → t = ⟨(allB l).toArray⟩ ∧ l.length ≤ 300 ∧ (allB l).length ≤ 20000)
theorem allB_snoc (l : List ByteArray) (k : Nat) (h : k < l.length) : allB (l.take (k + 1)) = allB (l.take k) ++ l[k].data.toList := by
  unfold allB
  rw [List.take_succ_eq_append_getElem h, List.flatMap_append]
  simp only [List.flatMap_cons, List.flatMap_nil, List.append_nil]
theorem len_list (s : ByteArray) : s.data.toList.length = s.size := by rw [Array.length_toList]; rfl
theorem app_str (x : List UInt8) (s : ByteArray) : (⟨x.toArray⟩ : ByteArray) ++ s = ⟨(x ++ s.data.toList).toArray⟩ := by
  obtain ⟨⟨l⟩⟩ := s
  exact ByteArray.mk_append_mk x l
set_option maxRecDepth 100000 in
set_option maxHeartbeats 1000000 in
theorem joined_any (v : Value) (l : List ByteArray) (w : World) (hr : RowAt w v (l.map Value.string)) (hs : ∀ s ∈ l, s.size ≤ maxLen) (hl : l.length ≤ maxLen) :
    Calls Tryd.prog 10 #[v] w (Joined l w) := by
  obtain ⟨a, c, rfl⟩ := hr.len
  rw [List.length_map] at hr ⊢
  unfold maxLen at hl
  have hl' : (l.length : Int) ≤ 9223372036854775807 := by omega
  have HS := Lib.hid hs
  clear hl hs
  go_enter Tryd.func10, Tryd.ntmps10
  go_wp2
  go_loop [4, 9] (fun t i => ∃ k : Nat, k ≤ l.length ∧ k ≤ 101 ∧ i = .int .i64 k ∧ t = .string ⟨(allB (l.take k)).toArray⟩ ∧ (allB (l.take k)).length ≤ 4000) (fun _ i => l.length - (intOf i).toNat)
  case atStart => exact ⟨0, Nat.zero_le _, Nat.zero_le _, rfl, rfl, by simp [allB]⟩
  case round =>
    obtain ⟨k, hk, hk2, rfl, rfl, hb⟩ := hrel
    have hbi : ((allB (l.take k)).length : Int) ≤ 4000 := by omega
    by_cases hlt : k < l.length
    · obtain ⟨bb, off, rfl, hcell⟩ := row_str hr hlt
      have hsz := HS.out l[k] (List.getElem_mem hlt)
      unfold maxLen at hsz
      by_cases h1 : 100 < k
      · have h1' : (100 : Int) < k := by omega
        go_wp2
        go_ret2
        exact ⟨_, _, rfl, rfl, fun h => by cases h⟩
      have h1' : decide ((100 : Int) < k) = false := by simp; omega
      by_cases h2 : 2000 < l[k].size
      · have h2' : (2000 : Int) < l[k].size := by omega
        go_wp2
        go_ret2
        exact ⟨_, _, rfl, rfl, fun h => by cases h⟩
      have h2' : decide ((2000 : Int) < l[k].size) = false := by simp; omega
      by_cases h3 : 2000 < (allB (l.take k)).length
      · have h3' : (2000 : Int) < (allB (l.take k)).length := by omega
        go_wp2
        go_ret2
        exact ⟨_, _, rfl, rfl, fun h => by cases h⟩
      have h3' : decide ((2000 : Int) < (allB (l.take k)).length) = false := by simp; omega
      have HT := Lib.hid (allB_snoc l k hlt)
      have HL : Hid ((allB (l.take (k + 1))).length ≤ 4000) := by
        show _ ≤ _
        rw [HT.out, List.length_append, len_list]; omega
      have hap := app_str (allB (l.take k)) l[k]
      rw [← HT.out] at hap
      have h2i : (l[k].size : Int) ≤ 2000 := by omega
      clear hb h3
      go_wp2
      refine ⟨⟨k + 1, by omega, by omega, by go_num, rfl, HL.out⟩, by simp [intOf]; omega⟩
    · obtain rfl : k = l.length := by omega
      have ht : l.take l.length = l := List.take_length
      rw [ht] at hb hbi ⊢
      go_wp2
      go_ret2
      exact ⟨_, _, rfl, rfl, fun _ => ⟨rfl, by omega, by omega⟩⟩
end Go.Proofs.YtgcdfoadegojcaaDoor
