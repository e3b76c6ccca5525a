/- The document's answer: One. -/
import Derived.Test.YtkmpcncehicpmaaSmNev
namespace Go.Proofs.Ytkmpcncehicpmaa
open Go.RowKit
set_option linter.unusedVariables false
/-- If it says yes, the epochs of both never fall. -/
def OneAt (a b : List Int) (w : World) (e : Ending) (w' : World) : Prop := ∃ ok : Bool, e = .returned (.bool ok) ∧ (ok = true → Sorted a ∧ Sorted b) ∧ w.grownBy w' none
def LastAt (l : List Int) (j : Nat) (v : Value) : Prop := ∃ x : Int, v = .int .i64 x ∧ (1 ≤ j → x = l.getD (j - 1) 0)
set_option maxRecDepth 100000 in
set_option maxHeartbeats 2000000 in
theorem One_any (va vb : Value) (a b : List Int) (w : World) (hra : RowAt w va (a.map (Value.int .i64))) (hrb : RowAt w vb (b.map (Value.int .i64))) (ha : a.length ≤ 300) (hb : b.length ≤ 300) :
    Calls Try.prog 83 #[va, vb] w (OneAt a b w) := by
  have FA : ∃ p c, va = .slice p a.length c := by
    obtain ⟨p, c, e⟩ := hra.len
    exact ⟨p, c, by rw [e, List.length_map]⟩
  have FB : ∃ p c, vb = .slice p b.length c := by
    obtain ⟨p, c, e⟩ := hrb.len
    exact ⟨p, c, by rw [e, List.length_map]⟩
  obtain ⟨pa, ca, rfl⟩ := FA
  obtain ⟨pb, cb, rfl⟩ := FB
  have ja : (a.length : Int) ≤ 300 := by omega
  have jb : (b.length : Int) ≤ 300 := by omega
  have x0 : ∀ w, (Instr.index 113 (.agg #[.slice pa a.length ca, .slice pb b.length cb]) (.int .i64 0)).run Try.prog w = .ok (.slice pa a.length ca) w := fun _ => by kernel_rfl
  have x1 : ∀ w, (Instr.index 113 (.agg #[.slice pa a.length ca, .slice pb b.length cb]) (.int .i64 1)).run Try.prog w = .ok (.slice pb b.length cb) w := fun _ => by kernel_rfl
  go_enter Try.func83, Try.ntmps83
  go_wp2
  go_loopw [14] (fun i wr => NevAt a b i ∧ w.grownBy wr none) (fun i _ => 2 - (intOf i).toNat)
  case atStart => exact ⟨.inl rfl, grow_refl _ _⟩
  case round =>
    obtain ⟨hat, hg⟩ := hrel
    rcases hat with rfl | ⟨rfl, hsa⟩ | ⟨rfl, hsa, hsb⟩
    · skip
      go_wp2
      obtain ⟨wo, hwo⟩ : ∃ wo : World, wo = wr := ⟨_, rfl⟩
      rw [← hwo] at hg
      go_loopw [8, 7] (fun i la wr => ∃ j : Nat, i = .int .i64 j ∧ j ≤ a.length ∧ SoFar a j ∧ LastAt a j la ∧ w.grownBy wr none) (fun i _ _ => a.length - (intOf i).toNat)
      case atStart => exact ⟨0, rfl, by omega, fun q hq => by omega, ⟨1, rfl, by omega⟩, by rw [← hwo]; exact hg⟩
      case round =>
        obtain ⟨j, rfl, hj, hsf, ⟨x, rfl, hx⟩, hgj⟩ := hrel
        clear hg hwo
        have HSF := Lib.hid hsf
        have HX := Lib.hid hx
        clear hsf hx
        by_cases hlt : j < a.length
        · obtain ⟨bb, off, rfl, c1, _⟩ := row_int (hra.kept hgj) rfl hlt
          obtain ⟨s, hs⟩ : ∃ x, x = a.getD j 0 := ⟨_, rfl⟩
          rw [← hs] at c1
          have HS := Lib.hid hs
          have hji : (j : Int) < a.length := by omega
          have hj0 : (0 : Int) ≤ j := by omega
          clear hs
          by_cases hlt2 : s < x
          · have hd : decide (s < x) = true := decide_eq_true hlt2
            go_wp2
            refine bodyPost_ret (v := .bool false) ?_ ?_ ?_
            · simp [results, go_sem]
            · rfl
            · exact ⟨false, rfl, (fun h => by cases h), hgj⟩
          · have hd : decide (s < x) = false := decide_eq_false hlt2
            have HF : Hid (SoFar a (j + 1)) := by
              show SoFar _ _
              by_cases h0 : 1 ≤ j
              · exact sofar_step HSF.out h0 (by rw [← HX.out h0, ← HS.out]; omega)
              · intro q hq; omega
            go_wp2
            go_roundw
            case rel => exact ⟨j + 1, by go_num, by omega, HF.out, ⟨s, rfl, fun _ => by rw [Nat.add_sub_cancel]; exact HS.out⟩, hgj⟩
            case measure => simp [intOf]; omega
        · have HSO : Hid (Sorted a) := fun q hq => HSF.out q (by omega)
          go_wp2
          go_roundw
          case rel => exact ⟨.inr (.inl ⟨rfl, HSO.out⟩), hgj⟩
          case measure => simp [intOf]
    · have HSA := Lib.hid hsa
      clear hsa
      go_wp2
      obtain ⟨wo, hwo⟩ : ∃ wo : World, wo = wr := ⟨_, rfl⟩
      rw [← hwo] at hg
      go_loopw [8, 7] (fun i la wr => ∃ j : Nat, i = .int .i64 j ∧ j ≤ b.length ∧ SoFar b j ∧ LastAt b j la ∧ w.grownBy wr none) (fun i _ _ => b.length - (intOf i).toNat)
      case atStart => exact ⟨0, rfl, by omega, fun q hq => by omega, ⟨1, rfl, by omega⟩, by rw [← hwo]; exact hg⟩
      case round =>
        obtain ⟨j, rfl, hj, hsf, ⟨x, rfl, hx⟩, hgj⟩ := hrel
        clear hg hwo
        have HSF := Lib.hid hsf
        have HX := Lib.hid hx
        clear hsf hx
        by_cases hlt : j < b.length
        · obtain ⟨bb, off, rfl, c1, _⟩ := row_int (hrb.kept hgj) rfl hlt
          obtain ⟨s, hs⟩ : ∃ x, x = b.getD j 0 := ⟨_, rfl⟩
          rw [← hs] at c1
          have HS := Lib.hid hs
          have hji : (j : Int) < b.length := by omega
          have hj0 : (0 : Int) ≤ j := by omega
          clear hs
          by_cases hlt2 : s < x
          · have hd : decide (s < x) = true := decide_eq_true hlt2
            go_wp2
            refine bodyPost_ret (v := .bool false) ?_ ?_ ?_
            · simp [results, go_sem]
            · rfl
            · exact ⟨false, rfl, (fun h => by cases h), hgj⟩
          · have hd : decide (s < x) = false := decide_eq_false hlt2
            have HF : Hid (SoFar b (j + 1)) := by
              show SoFar _ _
              by_cases h0 : 1 ≤ j
              · exact sofar_step HSF.out h0 (by rw [← HX.out h0, ← HS.out]; omega)
              · intro q hq; omega
            go_wp2
            go_roundw
            case rel => exact ⟨j + 1, by go_num, by omega, HF.out, ⟨s, rfl, fun _ => by rw [Nat.add_sub_cancel]; exact HS.out⟩, hgj⟩
            case measure => simp [intOf]; omega
        · have HSO : Hid (Sorted b) := fun q hq => HSF.out q (by omega)
          go_wp2
          go_roundw
          case rel => exact ⟨.inr (.inr ⟨rfl, HSA.out, HSO.out⟩), hgj⟩
          case measure => simp [intOf]
    · have HSO1 := Lib.hid hsa
      have HSO2 := Lib.hid hsb
      clear hsa hsb
      go_wp2
      obtain ⟨wo, hwo⟩ : ∃ wo : World, wo = wr := ⟨_, rfl⟩
      rw [← hwo] at hg
      go_loopw [9] (fun i wr => ∃ n : Nat, i = .int .i64 n ∧ n ≤ 300 ∧ w.grownBy wr none) (fun i _ => 301 - (intOf i).toNat)
      case atStart => exact ⟨0, rfl, by omega, by rw [← hwo]; exact hg⟩
      case round =>
        obtain ⟨n, rfl, hn, hgn⟩ := hrel
        clear hg hwo
        by_cases hna : n < a.length
        · by_cases hnb : n < b.length
          · obtain ⟨b1, o1, rfl, c1, _⟩ := row_int (hra.kept hgn) rfl hna
            obtain ⟨b2, o2, rfl, c2, _⟩ := row_int (hrb.kept hgn) rfl hnb
            obtain ⟨s1, hs1⟩ : ∃ x, x = a.getD n 0 := ⟨_, rfl⟩
            obtain ⟨s2, hs2⟩ : ∃ x, x = b.getD n 0 := ⟨_, rfl⟩
            rw [← hs1] at c1
            rw [← hs2] at c2
            clear hs1 hs2
            have i1 : (n : Int) < a.length := by omega
            have i2 : (n : Int) < b.length := by omega
            have i0 : (0 : Int) ≤ n := by omega
            by_cases heq : s1 = s2
            · have hq : (s1 == s2) = true := by rw [beq_iff_eq]; exact heq
              clear heq
              go_wp2
              go_quiet (fail)
              go_wp2
              obtain ⟨wo, hwo⟩ : ∃ wo : World, wo = wr.drewN nq := ⟨_, rfl⟩
              have hgo : w.grownBy wo none := by rw [hwo]; exact grow_drawnN _ hgn
              clear hgn c1 c2
              go_loopw [10] (fun i wr => ∃ m : Nat, i = .int .i64 m ∧ m ≤ n ∧ w.grownBy wr none) (fun i _ => n - (intOf i).toNat)
              case atStart => exact ⟨0, rfl, by omega, by rw [← hwo]; exact hgo⟩
              case round =>
                obtain ⟨m, rfl, hm, hgm⟩ := hrel
                clear hgo hwo
                by_cases hmn : m < n
                · obtain ⟨b3, o3, e3, c3, _⟩ := row_int (hra.kept hgm) rfl (show m < a.length by omega)
                  obtain ⟨b4, o4, e4, c4, _⟩ := row_int (hrb.kept hgm) rfl (show m < b.length by omega)
                  injection e3 with e3
                  injection e3 with e5 e6
                  subst e5 e6
                  injection e4 with e4
                  injection e4 with e5 e6
                  subst e5 e6
                  obtain ⟨t1, ht1⟩ : ∃ x, x = a.getD m 0 := ⟨_, rfl⟩
                  obtain ⟨t2, ht2⟩ : ∃ x, x = b.getD m 0 := ⟨_, rfl⟩
                  rw [← ht1] at c3
                  rw [← ht2] at c4
                  clear ht1 ht2
                  have k1 : (m : Int) < a.length := by omega
                  have k2 : (m : Int) < b.length := by omega
                  have k0 : (0 : Int) ≤ m := by omega
                  by_cases hne : t1 = t2
                  · have hq2 : (t1 != t2) = false := by rw [hne]; simp
                    clear hne
                    go_wp2
                    go_quiet (fail)
                    go_wp2
                    go_roundw
                    case rel => exact ⟨m + 1, by go_num, by omega, grow_drawnN _ hgm⟩
                    case measure => simp [intOf]; omega
                  · have hq2 : (t1 != t2) = true := by rw [bne_iff_ne]; exact hne
                    go_wp2
                    go_quiet (fail)
                    go_wp2
                    refine bodyPost_ret (v := .bool false) ?_ ?_ ?_
                    · simp [results, go_sem]
                    · rfl
                    · exact ⟨false, rfl, (fun h => by cases h), grow_drawnN _ hgm⟩
                · go_wp2
                  go_roundw
                  case rel => exact ⟨n + 1, by go_num, by omega, hgm⟩
                  case measure => simp [intOf]; omega
            · have hq : (s1 == s2) = false := by rw [beq_eq_false_iff_ne]; exact heq
              go_wp2
              go_quiet (fail)
              go_wp2
              go_roundw
              case rel => exact ⟨n + 1, by go_num, by omega, grow_drawnN _ hgn⟩
              case measure => simp [intOf]; omega
          · have d1 : decide ((n : Int) < a.length) = true := decide_eq_true (by omega)
            have d2 : decide ((n : Int) < b.length) = false := decide_eq_false (by omega)
            go_wp2
            refine bodyPost_ret (v := .bool true) ?_ ?_ ?_
            · simp [results, go_sem]
            · rfl
            · exact ⟨true, rfl, (fun h => ⟨HSO1.out, HSO2.out⟩), hgn⟩
        · have d1 : decide ((n : Int) < a.length) = false := decide_eq_false (by omega)
          go_wp2
          refine bodyPost_ret (v := .bool true) ?_ ?_ ?_
          · simp [results, go_sem]
          · rfl
          · exact ⟨true, rfl, (fun h => ⟨HSO1.out, HSO2.out⟩), hgn⟩
end Go.Proofs.Ytkmpcncehicpmaa
