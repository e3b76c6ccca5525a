/- The law SeamNever: its walk. -/
import Derived.Test.YtkmpcncehicpmaaSmG
import Derived.Test.YtkmpcncehicpmaaSmM
import Derived.Deep.CutBlock
namespace Go.Proofs.Ytkmpcncehicpmaa
open Go.RowKit
set_option linter.unusedVariables false
theorem mod_pos (a : Int) (m : Nat) (h0 : 0 < m) (hm : m ≤ 40000) : ∃ k : Nat, k < m ∧ (IntKind.u64.wrap a).tmod (m : Int) = (k : Int) := by
  have e : IntKind.u64.wrap a = a % 18446744073709551616 := by simp [IntKind.wrap, IntKind.signed, IntKind.bits]
  have h1 : 0 ≤ IntKind.u64.wrap a := by rw [e]; omega
  rw [Int.tmod_eq_emod_of_nonneg h1]
  have h2 := Int.emod_nonneg (IntKind.u64.wrap a) (b := (m : Int)) (by omega)
  have h3 := Int.emod_lt_of_pos (IntKind.u64.wrap a) (b := (m : Int)) (by omega)
  exact ⟨((IntKind.u64.wrap a) % (m : Int)).toNat, by omega, by omega⟩
def NevAt (a b : List Int) (i : Value) : Prop := i = .int .i64 0 ∨ (i = .int .i64 1 ∧ Sorted a) ∨ (i = .int .i64 2 ∧ Sorted a ∧ Sorted b)
def SoFar (l : List Int) (j : Nat) : Prop := ∀ q, q + 1 < j → l.getD q 0 ≤ l.getD (q + 1) 0
theorem sofar_step {l : List Int} {j : Nat} (h : SoFar l j) (h1 : 1 ≤ j) (hle : l.getD (j - 1) 0 ≤ l.getD j 0) : SoFar l (j + 1) := by
  intro q hq
  by_cases e : q + 1 = j
  · subst e; simpa using hle
  · exact h q (by omega)
set_option maxRecDepth 100000 in
set_option maxHeartbeats 2000000 in
theorem law_SeamNever (va : Value) (a : List Int) {w : World} (hra : RowAt w va (a.map (Value.int .i64))) (hwa : ∀ n ∈ a, -9223372036854775808 ≤ n ∧ n ≤ 9223372036854775807) (hla : a.length ≤ maxLen)
    (vb : Value) (b : List Int) (hrb : RowAt w vb (b.map (Value.int .i64))) (hwb : ∀ n ∈ b, -9223372036854775808 ≤ n ∧ n ≤ 9223372036854775807) (hlb : b.length ≤ maxLen) (n : Int) (hn : -9223372036854775808 ≤ n ∧ n ≤ 9223372036854775807) (_ : World) :
    Calls Try.prog 24 #[va, vb, .int .i64 n] w fun e w' => e = .returned (.bool true) ∧ Below w.heap.size w w' := by
  have FA : ∃ p c, va = .slice p a.length c := by
    obtain ⟨p, c, e⟩ := hra.len
    exact ⟨p, c, by rw [e, List.length_map]⟩
  have FB : ∃ p c, vb = .slice p b.length c := by
    obtain ⟨p, c, e⟩ := hrb.len
    exact ⟨p, c, by rw [e, List.length_map]⟩
  obtain ⟨pa, ca, rfl⟩ := FA
  obtain ⟨pb, cb, rfl⟩ := FB
  have ia : (a.length : Int) ≤ 9223372036854775807 := by unfold maxLen at hla; omega
  have ib : (b.length : Int) ≤ 9223372036854775807 := by unfold maxLen at hlb; omega
  have HN := Lib.hid hn
  clear hwa hwb hn
  by_cases hbad : a.length < 1 ∨ 300 < a.length ∨ 300 < b.length
  · have hc : decide ((a.length : Int) < 1) = true ∨ (decide ((a.length : Int) < 1) = false ∧ decide ((300 : Int) < a.length) = true) ∨ (decide ((a.length : Int) < 1) = false ∧ decide ((300 : Int) < a.length) = false ∧ decide ((300 : Int) < b.length) = true) := by
      simp only [decide_eq_true_eq, decide_eq_false_iff_not]; omega
    clear hbad hla hlb
    rcases hc with h1 | ⟨h1, h2⟩ | ⟨h1, h2, h3⟩
    all_goals
      go_enter Try.func24, Try.ntmps24
      go_wp2_with fail
      refine (awake17_any _).mono ?_
      rintro e w2 ⟨rfl, g2⟩
      go_wp2_with fail
      refine (awake17_any _).mono ?_
      rintro e w3 ⟨rfl, g3⟩
      have G3 := grow_none g2 g3
      clear g2 g3
      go_wp2
      go_ret
      exact ⟨rfl, below_of_none G3⟩
  · have h1 : decide ((a.length : Int) < 1) = false := decide_eq_false (by omega)
    have h2 : decide ((300 : Int) < a.length) = false := decide_eq_false (by omega)
    have h3 : decide ((300 : Int) < b.length) = false := decide_eq_false (by omega)
    have ja : (a.length : Int) ≤ 300 := by omega
    have ja1 : (1 : Int) ≤ a.length := by omega
    have jb : (b.length : Int) ≤ 300 := by omega
    have HLA := Lib.hid hla
    have HLB := Lib.hid hlb
    obtain ⟨k, hk, hkk⟩ := mod_pos n a.length (by omega) (by omega)
    have hki : (k : Int) < a.length := by omega
    have hk0 : (0 : Int) ≤ k := by omega
    have HA6 : Hid (a.length ≤ 1000000) := by show _ ≤ _; omega
    have HB6 : Hid (b.length ≤ 1000000) := by show _ ≤ _; omega
    have HPOS : Hid (0 < a.length) := by show _ < _; omega
    have x0 : ∀ w, (Instr.index 113 (.agg #[.slice pa a.length ca, .slice pb b.length cb]) (.int .i64 0)).run Try.prog w = .ok (.slice pa a.length ca) w := fun _ => by kernel_rfl
    have x1 : ∀ w, (Instr.index 113 (.agg #[.slice pa a.length ca, .slice pb b.length cb]) (.int .i64 1)).run Try.prog w = .ok (.slice pb b.length cb) w := fun _ => by kernel_rfl
    clear hbad hla hlb
    go_enter Try.func24, Try.ntmps24
    go_wp2_with fail
    refine (awake17_any _).mono ?_
    rintro e w2 ⟨rfl, g2⟩
    go_wp2
    go_loopw [33] (fun i wr => NevAt a b i ∧ w.grownBy wr none) (fun i _ => 2 - (intOf i).toNat)
    case atStart => exact ⟨.inl rfl, g2⟩
    case round =>
      obtain ⟨hat, hg⟩ := hrel
      clear g2
      rcases hat with rfl | ⟨rfl, hsa⟩ | ⟨rfl, hsa, hsb⟩
      · skip
        go_wp2
        obtain ⟨wo, hwo⟩ : ∃ wo : World, wo = wr := ⟨_, rfl⟩
        rw [← hwo] at hg
        go_loopw [9] (fun i wr => ∃ j : Nat, i = .int .i64 j ∧ 1 ≤ j ∧ j ≤ a.length + 1 ∧ SoFar a j ∧ w.grownBy wr none) (fun i _ => a.length + 1 - (intOf i).toNat)
        case atStart => exact ⟨1, rfl, by omega, by omega, fun q hq => by omega, by rw [← hwo]; exact hg⟩
        case round =>
          obtain ⟨j, rfl, hj1, hj2, hsf, hgj⟩ := hrel
          clear hg hwo
          have HSF := Lib.hid hsf
          clear hsf
          by_cases hlt : j < a.length
          · obtain ⟨bb, off, rfl, c1, _⟩ := row_int (hra.kept hgj) rfl hlt
            obtain ⟨bb', off', e, c2, _⟩ := row_int (hra.kept hgj) rfl (show j - 1 < a.length by omega)
            injection e with e
            injection e with e1 e2
            subst e1 e2
            obtain ⟨i, rfl⟩ : ∃ i, j = i + 1 := ⟨j - 1, by omega⟩
            rw [Nat.add_sub_cancel] at c2
            obtain ⟨s1, hs1⟩ : ∃ x, x = a.getD (i + 1) 0 := ⟨_, rfl⟩
            obtain ⟨s2, hs2⟩ : ∃ x, x = a.getD i 0 := ⟨_, rfl⟩
            rw [← hs1] at c1
            rw [← hs2] at c2
            have hii : (i : Int) + 1 < a.length := by omega
            have hi0 : (0 : Int) ≤ i := by omega
            have H1 := Lib.hid hs1
            have H2 := Lib.hid hs2
            clear hs1 hs2
            by_cases hlt2 : s1 < s2
            · have hd : decide (s1 < s2) = true := decide_eq_true hlt2
              go_wp2
              go_quiet (fail)
              go_wp2
              refine bodyPost_ret (v := .bool true) ?_ ?_ ?_
              · simp [results, go_sem]
              · rfl
              · exact ⟨rfl, below_of_none (grow_drawnN _ hgj)⟩
            · have hd : decide (s1 < s2) = false := decide_eq_false hlt2
              have HF : Hid (SoFar a (i + 1 + 1)) := sofar_step HSF.out (by omega) (by rw [Nat.add_sub_cancel, ← H1.out, ← H2.out]; omega)
              go_wp2
              go_quiet (fail)
              go_wp2
              go_roundw
              case rel => exact ⟨i + 1 + 1, by go_num, by omega, by omega, HF.out, grow_drawnN _ hgj⟩
              case measure => simp [intOf]; omega
          · have HSO : Hid (Sorted a) := fun q hq => HSF.out q (by omega)
            go_wp2
            go_roundw
            case rel => exact ⟨.inr (.inl ⟨rfl, HSO.out⟩), hgj⟩
            case measure => simp [intOf]
      · have HSA := Lib.hid hsa
        clear hsa
        go_wp2
        obtain ⟨wo, hwo⟩ : ∃ wo : World, wo = wr := ⟨_, rfl⟩
        rw [← hwo] at hg
        go_loopw [9] (fun i wr => ∃ j : Nat, i = .int .i64 j ∧ 1 ≤ j ∧ j ≤ b.length + 1 ∧ SoFar b j ∧ w.grownBy wr none) (fun i _ => b.length + 1 - (intOf i).toNat)
        case atStart => exact ⟨1, rfl, by omega, by omega, fun q hq => by omega, by rw [← hwo]; exact hg⟩
        case round =>
          obtain ⟨j, rfl, hj1, hj2, hsf, hgj⟩ := hrel
          clear hg hwo
          have HSF := Lib.hid hsf
          clear hsf
          by_cases hlt : j < b.length
          · obtain ⟨bb, off, rfl, c1, _⟩ := row_int (hrb.kept hgj) rfl hlt
            obtain ⟨bb', off', e, c2, _⟩ := row_int (hrb.kept hgj) rfl (show j - 1 < b.length by omega)
            injection e with e
            injection e with e1 e2
            subst e1 e2
            obtain ⟨i, rfl⟩ : ∃ i, j = i + 1 := ⟨j - 1, by omega⟩
            rw [Nat.add_sub_cancel] at c2
            obtain ⟨s1, hs1⟩ : ∃ x, x = b.getD (i + 1) 0 := ⟨_, rfl⟩
            obtain ⟨s2, hs2⟩ : ∃ x, x = b.getD i 0 := ⟨_, rfl⟩
            rw [← hs1] at c1
            rw [← hs2] at c2
            have hii : (i : Int) + 1 < b.length := by omega
            have hi0 : (0 : Int) ≤ i := by omega
            have H1 := Lib.hid hs1
            have H2 := Lib.hid hs2
            clear hs1 hs2
            by_cases hlt2 : s1 < s2
            · have hd : decide (s1 < s2) = true := decide_eq_true hlt2
              go_wp2
              go_quiet (fail)
              go_wp2
              refine bodyPost_ret (v := .bool true) ?_ ?_ ?_
              · simp [results, go_sem]
              · rfl
              · exact ⟨rfl, below_of_none (grow_drawnN _ hgj)⟩
            · have hd : decide (s1 < s2) = false := decide_eq_false hlt2
              have HF : Hid (SoFar b (i + 1 + 1)) := sofar_step HSF.out (by omega) (by rw [Nat.add_sub_cancel, ← H1.out, ← H2.out]; omega)
              go_wp2
              go_quiet (fail)
              go_wp2
              go_roundw
              case rel => exact ⟨i + 1 + 1, by go_num, by omega, by omega, HF.out, grow_drawnN _ hgj⟩
              case measure => simp [intOf]; omega
          · have HSO : Hid (Sorted b) := fun q hq => HSF.out q (by omega)
            go_wp2
            go_roundw
            case rel => exact ⟨.inr (.inr ⟨rfl, HSA.out, HSO.out⟩), hgj⟩
            case measure => simp [intOf]
      · have HSO1 := Lib.hid hsa
        have HSO2 := Lib.hid hsb
        clear hsa hsb
        obtain ⟨bb, off, rfl, c1, _⟩ := row_int (hra.kept hg) rfl (show k < a.length by omega)
        obtain ⟨s, hs⟩ : ∃ x, x = a.getD k 0 := ⟨_, rfl⟩
        rw [← hs] at c1
        have hcell : ∀ W : World, wr.grownBy W none → W.cell? ⟨bb, off + k, none⟩ = some (.int .i64 s) := fun W hW => by
          rw [← c1]; exact World.cell?_of_block (hW.block bb (World.block_lt_of_cell? wr _ c1) (by simp))
        obtain ⟨T, hT⟩ : ∃ T, T = stepN a b (k + 1) := ⟨_, rfl⟩
        have hT2 : nextN a (hintN b (1 + (k : Int)) s : Nat) (hintE b (1 + (k : Int)) s) = T := by
          rw [hT]
          unfold stepN
          rw [Nat.add_sub_cancel, ← hs, show ((k + 1 : Nat) : Int) = 1 + (k : Int) by omega]
        have hTlt : T ≤ k := by
          have := stepN_lt a b (show 1 ≤ k + 1 by omega)
          omega
        have hNM : ∀ m, T ≤ m → m < k → ¬ (m + 1 ≤ b.length ∧ b.getD m 0 = a.getD m 0) := by
          rintro m h1 h2 ⟨h3, h4⟩
          have := step_keeps HSO1.out HSO2.out (n := k + 1) (k := m + 1) (by omega) (by omega) (by omega) h3 (by rw [Nat.add_sub_cancel]; exact h4)
          omega
        have HT2 := Lib.hid hT2
        have HNM := Lib.hid hNM
        have HS := Lib.hid hs
        have hf : -9223372036854775808 ≤ 1 + (k : Int) ∧ 1 + (k : Int) ≤ 9223372036854775807 := by omega
        have HF := Lib.hid hf
        have hTi : (T : Int) ≤ k := by omega
        have hT0 : (0 : Int) ≤ T := by omega
        have hra2 := Lib.hid (hra.kept hg)
        have hrb2 := Lib.hid (hrb.kept hg)
        have HBN : Hid (hintN b (1 + (k : Int)) s ≤ 300) := by
          show _ ≤ _
          have := dn_le b s (cutN (1 + (k : Int) - 1) b.length)
          have e : hintN b (1 + (k : Int)) s ≤ cutN (1 + (k : Int) - 1) b.length := this
          unfold cutN at e
          omega
        have hsum : IntKind.i64.wrap (1 + (k : Int) - 1) = (k : Int) := by
          rw [IntKind.wrap_i64]; omega
        clear hs hT hT2 hNM hf c1 hra hrb x0 x1
        go_wp2
        go_upto_region 13 with (fail)
        go_cut [10] (fun v wx => v = .int .i64 (T : Nat) ∧ wr.grownBy wx none)
        case first =>
          refine wp_region_rel (fun w => wr.grownBy w none) (fun w w' => w.grownBy w' none) (by kernel_rfl) (by kernel_rfl) (fun w => grow_refl w none) (grow_drawn (grow_refl _ _)) ?_
          repeat (refine wpRel_det ?_; apply Exists.intro; refine ⟨fun w hI => ?_, ?_⟩; focus (go_simp; exact ⟨rfl, grow_refl _ _⟩))
          refine wpRel_step (fun v w => RowAt w v (a.map (Value.int .i64))) (fun v w w' hr h => h.kept hr) (fun w hI => ?_) ?_
          focus (go_simp; exact own_rel _ a _ (hra2.out.kept hI) HA6.out hI)
          repeat (refine wpRel_det ?_; apply Exists.intro; refine ⟨fun w hI => ?_, ?_⟩; focus (go_simp; exact ⟨rfl, grow_refl _ _⟩))
          refine wpRel_step (fun v w => RowAt w v (b.map (Value.int .i64))) (fun v w w' hr h => h.kept hr) (fun w hI => ?_) ?_
          focus (go_simp; exact own_rel _ b _ (hrb2.out.kept hI) HB6.out hI)
          repeat (refine wpRel_det ?_; apply Exists.intro; refine ⟨fun w hI => ?_, ?_⟩; focus (go_simp; first | exact ⟨rfl, grow_refl _ _⟩ | (intro v hv; exact Hint_rel _ b _ _ _ hv HLB.out HF.out hI) | (intro v hv; exact Next_rel _ a _ _ _ hv HLA.out ⟨by have := HBN.out; omega, by have := HBN.out; omega⟩ hI)))
          refine wpRel_nil ?_
          intro w' hI
          rw [HT2.out]
          go_simp
          intro v1 _ v2 _
          go_wp2
          go_meet
          exact ⟨rfl, hI⟩
        case rest =>
          obtain ⟨rfl, hgx⟩ := hcut
          have hgc := grow_none hg hgx
          have hra3 := Lib.hid (hra2.out.kept hgx)
          have hrb3 := Lib.hid (hrb2.out.kept hgx)
          clear hcell hgx hg
          go_wp2
          go_loopw [11] (fun i wr => ∃ m : Nat, i = .int .i64 ((m : Int) + 1) ∧ T ≤ m ∧ m ≤ k ∧ wc.grownBy wr none) (fun i _ => k + 1 - (intOf i).toNat)
          case atStart => exact ⟨T, rfl, Nat.le_refl _, hTlt, grow_refl _ _⟩
          case round =>
            obtain ⟨m, rfl, hm1, hm2, hgm⟩ := hrel
            by_cases hlt : m < k
            · have hd : decide ((m : Int) + 1 < 1 + k) = true := decide_eq_true (by omega)
              have hm0 : (0 : Int) ≤ m := by omega
              have hma : (m : Int) < a.length := by omega
              obtain ⟨ba, oa, ea, ca1, _⟩ := row_int (hra3.out.kept hgm) rfl (show m < a.length by omega)
              injection ea with ea
              injection ea with e1 e2
              subst e1 e2
              have hno := HNM.out m hm1 hlt
              obtain ⟨s1, hs1⟩ : ∃ x, x = a.getD m 0 := ⟨_, rfl⟩
              rw [← hs1] at ca1 hno
              by_cases hb1 : m + 1 ≤ b.length
              · obtain ⟨bbb, ob, rfl, cb1, _⟩ := row_int (hrb3.out.kept hgm) rfl (show m < b.length by omega)
                obtain ⟨s2, hs2⟩ : ∃ x, x = b.getD m 0 := ⟨_, rfl⟩
                rw [← hs2] at cb1 hno
                have hne : s2 ≠ s1 := fun h => hno ⟨hb1, h⟩
                have hq : (s2 == s1) = false := by rw [beq_eq_false_iff_ne]; exact hne
                have hd2 : decide ((m : Int) + 1 ≤ b.length) = true := decide_eq_true (by omega)
                have hmb : (m : Int) < b.length := by omega
                clear hs1 hs2 hno hne
                go_wp2
                go_quiet (fail)
                go_wp2
                go_roundw
                case rel => exact ⟨m + 1, by go_num, by omega, by omega, grow_drawnN _ hgm⟩
                case measure => simp [intOf]; omega
              · have hd2 : decide ((m : Int) + 1 ≤ b.length) = false := decide_eq_false (by omega)
                clear hs1 hno
                go_wp2
                go_quiet (fail)
                go_wp2
                go_roundw
                case rel => exact ⟨m + 1, by go_num, by omega, by omega, grow_drawnN _ hgm⟩
                case measure => simp [intOf]; omega
            · have hd : decide ((m : Int) + 1 < 1 + k) = false := decide_eq_false (by omega)
              have hz1 : decide ((0 : Int) ≤ T) = true := decide_eq_true (by omega)
              have hz2 : decide ((T : Int) < 1 + k) = true := decide_eq_true (by omega)
              go_wp2
              refine bodyPost_ret (v := .bool true) ?_ ?_ ?_
              · simp [results, go_sem]
              · rfl
              · exact ⟨rfl, below_of_none (grow_none hgc hgm)⟩
end Go.Proofs.Ytkmpcncehicpmaa
