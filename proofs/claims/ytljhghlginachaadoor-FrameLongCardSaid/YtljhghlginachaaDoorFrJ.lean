/- Stage 4: what the statements ask first: many, awake. -/
import Derived.Test.YtljhghlginachaaDoorFrI
import Derived.Test.YtljhghlginachaaDoorCrT
import Derived.Test.YtljhghlginachaaDoorSame
namespace Go.Proofs.YtljhghlginachaaDoor
open Go.RowKit
set_option linter.unusedVariables false
theorem allB_snoc (l : List ByteArray) (k : Nat) (hk : k < l.length) : allB (l.take (k + 1)) = allB (l.take k) ++ (l.getD k ⟨#[]⟩).data.toList := by
  unfold allB
  rw [List.take_succ_eq_append_getElem hk, List.flatMap_append, List.getD, List.getElem?_eq_getElem hk]
  simp only [List.flatMap_cons, List.flatMap_nil, List.append_nil, Option.getD_some]
theorem allB_take_le (l : List ByteArray) (k : Nat) : (allB (l.take k)).length ≤ (allB l).length := by
  have h : allB l = allB (l.take k) ++ allB (l.drop k) := by
    unfold allB
    rw [← List.flatMap_append, List.take_append_drop]
  rw [h, List.length_append]; omega
def ManyE (l : List ByteArray) (e : Ending) : Prop := e = .returned (.bool true) ∨ (e = .returned (.bool false) ∧ l.length + (allB l).length ≤ 8192)
set_option maxRecDepth 100000 in
set_option maxHeartbeats 400000 in
theorem many04_any (v : Value) (l : List ByteArray) (w : World) (hr : RowAt w v (l.map Value.string)) (hl : l.length ≤ maxLen) (hs : ∀ s ∈ l, s.size ≤ maxLen) :
    Calls Tryd.prog 10 #[v] w fun e w' => ManyE l e ∧ w = w' := by
  obtain ⟨p, c, rfl⟩ := row_form hr
  have il : (l.length : Int) ≤ 9223372036854775807 := by unfold maxLen at hl; omega
  have HSZ := Lib.hid hs
  clear hl hs
  go_enter Tryd.func10, Tryd.ntmps10
  go_wp2
  go_loop [3, 8] (fun n i => ∃ k N : Nat, k ≤ l.length ∧ i = .int .i64 k ∧ n = .int .i64 N ∧ N ≤ 8192 ∧ k + (allB (l.take k)).length = N) (fun _ i => l.length - (intOf i).toNat)
  case atStart => exact ⟨0, 0, Nat.zero_le _, rfl, rfl, Nat.zero_le _, rfl⟩
  case round =>
    obtain ⟨k, N, hk, rfl, rfl, hN, hsum⟩ := hrel
    have HM := Lib.hid hsum
    by_cases hlt : k < l.length
    · obtain ⟨b1, o1, rfl, c1, _⟩ := row_string hr rfl hlt
      have hsz := HSZ.out (l.getD k ⟨#[]⟩) (by rw [List.getD, List.getElem?_eq_getElem hlt]; exact List.getElem_mem hlt)
      have HS := Lib.hid (allB_snoc l k hlt)
      obtain ⟨x, hx⟩ : ∃ x, x = l.getD k ⟨#[]⟩ := ⟨_, rfl⟩
      rw [← hx] at c1 hsz
      have hszi : (x.size : Int) ≤ 9223372036854775807 := by unfold maxLen at hsz; omega
      have HX := Lib.hid hx
      have hki : (k : Int) < l.length := by omega
      have hNi : (N : Int) ≤ 8192 := by omega
      obtain ⟨m, hm⟩ : ∃ m : Nat, m = min x.size 1048576 := ⟨_, rfl⟩
      have hmi : min (x.size : Int) 1048576 = (m : Int) := by omega
      have hm2 : (m : Int) ≤ 1048576 := by omega
      by_cases hgt : 8192 < N + (1 + m)
      · have d1 : decide ((8192 : Int) < (N : Int) + (1 + (m : Int))) = true := decide_eq_true (by omega)
        clear hx hsz hsum hm
        go_wp2
        refine bodyPost_ret (v := .bool true) ?_ ?_ ?_
        · simp [results, go_sem]
        · rfl
        · exact ⟨.inl rfl, rfl⟩
      · have d1 : decide ((8192 : Int) < (N : Int) + (1 + (m : Int))) = false := decide_eq_false (by omega)
        have HE : Hid (k + 1 + (allB (l.take (k + 1))).length = N + (1 + m)) := by
          show _ = _
          have e : x.data.toList.length = x.size := by rw [Array.length_toList]; rfl
          rw [HS.out, ← hx, List.length_append, e]
          omega
        have hle : N + (1 + m) ≤ 8192 := by omega
        clear hx hsz hsum hm
        go_wp2
        go_round
        case rel => exact ⟨k + 1, N + (1 + m), by omega, by go_num, by push_cast; rfl, hle, HE.out⟩
        case measure => simp [intOf]; omega
    · obtain rfl : k = l.length := by omega
      have HF : Hid (l.length + (allB l).length ≤ 8192) := by
        show _ ≤ _
        have := HM.out
        rw [List.take_length] at this
        omega
      go_wp2
      refine bodyPost_ret (v := .bool false) ?_ ?_ ?_
      · simp [results, go_sem]
      · rfl
      · exact ⟨.inr ⟨rfl, HF.out⟩, rfl⟩
theorem many_sizes {l : List ByteArray} (h : l.length + (allB l).length ≤ 8192) : l.length ≤ 8192 ∧ ∀ s ∈ l, s.size ≤ 8192 := by
  refine ⟨by omega, fun s hs => ?_⟩
  have : s.size ≤ (allB l).length := by
    clear h
    induction l with
    | nil => cases hs
    | cons p l ih =>
      have e : allB (p :: l) = p.data.toList ++ allB l := by unfold allB; simp only [List.flatMap_cons]
      rw [e, List.length_append, len_bs]
      rcases List.mem_cons.1 hs with rfl | hs
      · omega
      · have := ih hs; omega
  omega
theorem frames_tot (l : List ByteArray) (hs : ∀ s ∈ l, s.size ≤ 1048576) : (framesB l).length ≤ (allB l).length + 14 * l.length := by
  induction l with
  | nil => simp [framesB]
  | cons p l ih =>
    have e : framesB (p :: l) = frB p ++ framesB l := by unfold framesB; simp only [List.flatMap_cons]
    have e2 : allB (p :: l) = p.data.toList ++ allB l := by unfold allB; simp only [List.flatMap_cons]
    have h := ih (fun s hs' => hs s (List.mem_cons_of_mem _ hs'))
    have h1 := hs p (List.mem_cons_self ..)
    have h2 := numB_len (n := (p.size : Int)) (by omega)
    rw [e, e2, List.length_append, List.length_append, frB_size, len_bs, List.length_cons]
    omega
theorem frame_ab : framesB [⟨#[97, 98]⟩, ⟨#[]⟩] = [4, 109, 72, 131, 158, 97, 98, 0, 0, 0, 0, 0] := by decide +kernel
theorem frame_ab1 : framesB [⟨#[97, 98]⟩, ⟨#[]⟩] = frB ⟨#[97, 98]⟩ ++ frB ⟨#[]⟩ := by unfold framesB; simp only [List.flatMap_cons, List.flatMap_nil, List.append_nil]
theorem frame_one : frB ⟨#[97, 98]⟩ = [4, 109, 72, 131, 158, 97, 98] := by decide +kernel
theorem frame_none : frB ⟨#[]⟩ = [0, 0, 0, 0, 0] := by decide +kernel
set_option maxRecDepth 100000 in
set_option maxHeartbeats 1000000 in
theorem awake04_any (w : World) (hm : Mv w) :
    Calls Tryd.prog 9 #[] w fun e w' => e = .returned (.bool true) ∧ w.grownBy w' none := by
  obtain ⟨o1, o2, o3⟩ := open_app ⟨#[97, 98]⟩ (by decide) (frB ⟨#[]⟩)
  have o4 := open_cut ⟨#[97, 98]⟩ (by decide) 6 (by rw [frame_one]; decide)
  rw [← frame_ab1, frame_ab] at o1 o2 o3
  rw [frame_none] at o3
  rw [frame_one] at o4
  obtain ⟨X, hX⟩ : ∃ X : ByteArray, X = ⟨#[4, 109, 72, 131, 158, 97, 98, 0, 0, 0, 0, 0]⟩ := ⟨_, rfl⟩
  obtain ⟨Y, hY⟩ : ∃ Y : ByteArray, Y = ⟨#[4, 109, 72, 131, 158, 97]⟩ := ⟨_, rfl⟩
  obtain ⟨R, hR⟩ : ∃ R : ByteArray, R = ⟨#[0, 0, 0, 0, 0]⟩ := ⟨_, rfl⟩
  have p1 : opB X = true := by rw [hX]; exact o1
  have p2 : payB X = ⟨#[97, 98]⟩ := by rw [hX]; exact o2
  have p3 : behB X = R := by rw [hX, hR]; exact o3
  have p4 : opB Y = false := by rw [hY]; exact o4
  have xs : X.size = 12 := by rw [hX]; rfl
  have xe : X.extract 0 6 = Y := by rw [hX, hY]; rfl
  have rs : R.size = 5 := by rw [hR]; rfl
  have ysz : Y.size = 6 := by rw [hY]; rfl
  have hF : (⟨(framesB [⟨#[97, 98]⟩, ⟨#[]⟩]).toArray⟩ : ByteArray) = X := by rw [frame_ab, hX]
  have xq : (X.toList == [4, 109, 72, 131, 158, 97, 98, 0, 0, 0, 0, 0]) = true := by rw [hX, ByteArray.toList_eq, beq_self_eq_true]
  have P1 := Lib.hid p1
  have P2 := Lib.hid p2
  have P3 := Lib.hid p3
  have P4 := Lib.hid p4
  have HF := Lib.hid hF
  have gA := World.grownBy_alloc w (.cells #[.string ⟨#[97, 98]⟩, .string ⟨#[]⟩] 9) none
  have XS : Hid (X.size ≤ 1000000000) := by show _ ≤ _; omega
  have YS : Hid (Y.size ≤ 1000000000) := by show _ ≤ _; omega
  clear o1 o2 o3 o4 p1 p2 p3 p4 hX hY hR hF ysz
  go_enter Tryd.func9, Tryd.ntmps9
  go_wp2_with fail
  refine (Seal_any _ [⟨#[97, 98]⟩, ⟨#[]⟩] _ (hm.kept gA) (RowAt.lit _ _ _ _ _ rfl) (by decide) (by decide)).mono ?_
  rintro e w2 ⟨rfl, g2⟩
  rw [HF.out]
  have G2 := grow_none gA g2
  go_wp2_with fail
  refine (Open_yes X _ (hm.kept G2) XS.out P1.out).mono ?_
  rintro e w3 ⟨rfl, g3⟩
  rw [P2.out, P3.out]
  have G3 := grow_none G2 g3
  go_wp2_with fail
  refine (Open_not Y _ (hm.kept G3) YS.out P4.out).mono ?_
  rintro e w4 ⟨rfl, g4⟩
  have G4 := grow_none G3 g4
  go_wp2
  go_ret
  exact ⟨rfl, G4⟩
end Go.Proofs.YtljhghlginachaaDoor
