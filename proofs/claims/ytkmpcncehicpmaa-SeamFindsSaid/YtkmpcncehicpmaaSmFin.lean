/- The law SeamFinds: its walk. -/
import Derived.Test.YtkmpcncehicpmaaSmOne
import Derived.Test.YtkmpcncehicpmaaRelT
namespace Go.Proofs.Ytkmpcncehicpmaa
open Go.RowKit
set_option linter.unusedVariables false
/-- A pointer to a new spot. -/
def NewSpot (w0 : World) (v : Value) (w : World) : Prop := ∃ g, v = .pointer (some ⟨g, 0, none⟩) ∧ w0.heap.size ≤ g ∧ Blk w g 108 [.int .i64 0, .int .i64 0]
theorem NewSpot.kept {w0 w w' : World} {v : Value} (h : NewSpot w0 v w) (hg : w.grownBy w' none) : NewSpot w0 v w' := by
  obtain ⟨g, h1, h2, h3⟩ := h
  exact ⟨g, h1, h2, h3.keep hg⟩
/-- What stands behind the question. -/
def HintBox (w0 : World) (N : Nat) (E : Int) (v : Value) (w : World) : Prop := ∃ g, v = .pointer (some ⟨g, 0, none⟩) ∧ w0.heap.size ≤ g ∧ Blk w g 108 [.int .i64 (N : Nat), .int .i64 E] ∧ w0.grownBy w none
def FindAt (a b : List Int) (E : Nat) (w0 : World) (i q : Value) (w : World) : Prop :=
  ∃ j n : Nat, i = .int .i64 j ∧ q = .int .i64 n ∧ n ≤ a.length ∧ cmN [a, b] ≤ n ∧ j ≤ E ∧ Enough a b n (E - j) ∧ w0.grownBy w none
theorem epN_le (l : List Int) : ∀ k, epN l k ≤ k
  | 0 => Nat.le_refl _
  | k + 1 => by
    have := epN_le l k
    rw [epN]
    split <;> omega
theorem epN_first (l : List Int) : epN l (0 + 1) = epN l 0 + 1 := by simp [epN]
def StopB (a b : List Int) (n : Nat) (v : Value) : Prop := ∃ bo : Bool, v = .bool bo ∧ (bo = true → Stops a b n) ∧ (bo = false → ¬ Stops a b n)
theorem rows_pair {w : World} {x y : Value} {a b : List Int} (ha : RowAt w x (a.map (Value.int .i64))) (hb : RowAt w y (b.map (Value.int .i64))) (t : TypeId) (c : Nat) :
    Rows2 .i64 (w.alloc (.cells #[x, y] t)) (.slice (some ⟨w.heap.size, 0, none⟩) 2 c) [a, b] := by
  refine ⟨[x, y], RowAt.lit w [x, y] t c 2 rfl, rfl, fun j hj => ?_⟩
  rcases j with _ | _ | j
  · exact ha.kept (World.grownBy_alloc _ _ _)
  · exact hb.kept (World.grownBy_alloc _ _ _)
  · exact absurd hj (by simp)
set_option maxRecDepth 100000 in
set_option maxHeartbeats 2000000 in
theorem law_SeamFinds (va : Value) (a : List Int) {w : World} (hra : RowAt w va (a.map (Value.int .i64))) (hwa : ∀ n ∈ a, -9223372036854775808 ≤ n ∧ n ≤ 9223372036854775807) (hla : a.length ≤ maxLen)
    (vb : Value) (b : List Int) (hrb : RowAt w vb (b.map (Value.int .i64))) (hwb : ∀ n ∈ b, -9223372036854775808 ≤ n ∧ n ≤ 9223372036854775807) (hlb : b.length ≤ maxLen) (_ : World) :
    Calls Try.prog 23 #[va, vb] w fun e w' => e = .returned (.bool true) ∧ Below w.heap.size w w' := by
  have FA : ∃ p c, va = .slice p a.length c := by
    obtain ⟨p, c, e⟩ := hra.len
    exact ⟨p, c, by rw [e, List.length_map]⟩
  have FB : ∃ p c, vb = .slice p b.length c := by
    obtain ⟨p, c, e⟩ := hrb.len
    exact ⟨p, c, by rw [e, List.length_map]⟩
  obtain ⟨pa, ca, rfl⟩ := FA
  obtain ⟨pb, cb, rfl⟩ := FB
  have ia : (a.length : Int) ≤ 9223372036854775807 := by unfold maxLen at hla; omega
  have ib : (b.length : Int) ≤ 9223372036854775807 := by unfold maxLen at hlb; omega
  clear hwa hwb
  by_cases hbad : 300 < a.length ∨ 300 < b.length
  · have hc : decide ((300 : Int) < a.length) = true ∨ (decide ((300 : Int) < a.length) = false ∧ decide ((300 : Int) < b.length) = true) := by
      simp only [decide_eq_true_eq, decide_eq_false_iff_not]; omega
    clear hbad hla hlb
    rcases hc with h1 | ⟨h1, h2⟩
    all_goals
      go_enter Try.func23, Try.ntmps23
      go_wp2_with fail
      refine (awake17_any _).mono ?_
      rintro e w2 ⟨rfl, g2⟩
      go_wp2_with fail
      refine (awake17_any _).mono ?_
      rintro e w3 ⟨rfl, g3⟩
      have G3 := grow_none g2 g3
      clear g2 g3
      go_wp2
      go_ret
      exact ⟨rfl, below_of_none G3⟩
  · have h2 : decide ((300 : Int) < a.length) = false := decide_eq_false (by omega)
    have h3 : decide ((300 : Int) < b.length) = false := decide_eq_false (by omega)
    have ja : (a.length : Int) ≤ 300 := by omega
    have jb : (b.length : Int) ≤ 300 := by omega
    have HLA := Lib.hid hla
    have HLB := Lib.hid hlb
    have HA6 : Hid (a.length ≤ 1000000) := by show _ ≤ _; omega
    have HB6 : Hid (b.length ≤ 1000000) := by show _ ≤ _; omega
    have HA3 : Hid (a.length ≤ 300) := by show _ ≤ _; omega
    have HB3 : Hid (b.length ≤ 300) := by show _ ≤ _; omega
    clear hbad hla hlb
    go_enter Try.func23, Try.ntmps23
    go_wp2_with fail
    refine (awake17_any _).mono ?_
    rintro e w2 ⟨rfl, g2⟩
    go_wp2_with fail
    refine (One_any _ _ a b _ (hra.kept g2) (hrb.kept g2) HA3.out HB3.out).mono ?_
    rintro e w3 ⟨ok, rfl, hso, g3⟩
    have HSO := Lib.hid hso
    have G3 := grow_none g2 g3
    clear hso g2 g3
    cases ok with
    | false =>
      go_wp2_with fail
      refine (awake17_any _).mono ?_
      rintro e w4 ⟨rfl, g4⟩
      have G4 := grow_none G3 g4
      clear G3 g4
      go_wp2
      go_ret
      exact ⟨rfl, below_of_none G4⟩
    | true =>
      have HS1 : Hid (Sorted a) := (HSO.out rfl).1
      have HS2 : Hid (Sorted b) := (HSO.out rfl).2
      have HE0 : Hid (epN a 0 = 0) := rfl
      go_wp2
      go_loopw [31, 5] (fun i e wr => ∃ k : Nat, i = .int .i64 k ∧ e = .int .i64 ((epN a k : Nat) + 1 : Int) ∧ k ≤ a.length ∧ w.grownBy wr none) (fun i _ _ => a.length - (intOf i).toNat)
      case atStart => exact ⟨0, rfl, by rw [HE0.out]; rfl, Nat.zero_le _, G3⟩
      case round =>
        obtain ⟨k, rfl, rfl, hk, hg⟩ := hrel
        clear G3
        have hek := epN_le a k
        have hek1 : (epN a k : Int) ≤ 300 := by omega
        have hek0 : (0 : Int) ≤ (epN a k : Int) := by omega
        by_cases hlt : k < a.length
        · obtain ⟨bb, off, rfl, c1, _⟩ := row_int (hra.kept hg) rfl hlt
          have hki : (k : Int) < a.length := by omega
          have hk0 : (0 : Int) ≤ k := by omega
          rcases k with _ | k
          · have hz : (((0 : Nat) : Int) == 0) = true := by simp
            have HF : Hid (epN a (0 + 1) = epN a 0 + 1) := epN_first a
            go_wp2
            go_quiet (fail)
            go_wp2
            go_roundw
            case rel => exact ⟨0 + 1, by go_num, by rw [HF.out]; go_num, by omega, grow_drawnN _ hg⟩
            case measure => simp [intOf]; omega
          · obtain ⟨bb', off', e, c2, _⟩ := row_int (hra.kept hg) rfl (show k < a.length by omega)
            injection e with e
            injection e with e1 e2
            subst e1 e2
            have hz : ((k : Int) + 1 == 0) = false := by rw [beq_eq_false_iff_ne]; omega
            obtain ⟨s1, hs1⟩ : ∃ x, x = a.getD (k + 1) 0 := ⟨_, rfl⟩
            obtain ⟨s2, hs2⟩ : ∃ x, x = a.getD k 0 := ⟨_, rfl⟩
            rw [← hs1] at c1
            rw [← hs2] at c2
            have hki2 : (k : Int) + 1 < a.length := by omega
            have hk02 : (0 : Int) ≤ k := by omega
            by_cases heq : s1 = s2
            · have hq : (s1 != s2) = false := by rw [heq]; simp
              have HF : Hid (epN a (k + 1 + 1) = epN a (k + 1)) := by
                show _ = _
                rw [epN, if_neg]
                · rfl
                · rw [Nat.add_sub_cancel, ← hs1, ← hs2]
                  rintro (h | h)
                  · omega
                  · exact h heq
              clear hs1 hs2 heq
              go_wp2
              go_quiet (fail)
              go_wp2
              go_roundw
              case rel => exact ⟨k + 1 + 1, by go_num, by rw [HF.out], by omega, grow_drawnN _ hg⟩
              case measure => simp [intOf]; omega
            · have hq : (s1 != s2) = true := by rw [bne_iff_ne]; exact heq
              have HF : Hid (epN a (k + 1 + 1) = epN a (k + 1) + 1) := by
                show _ = _
                rw [epN, if_pos]
                rw [Nat.add_sub_cancel, ← hs1, ← hs2]
                exact .inr heq
              clear hs1 hs2 heq
              go_wp2
              go_quiet (fail)
              go_wp2
              go_roundw
              case rel => exact ⟨k + 1 + 1, by go_num, by rw [HF.out]; go_num, by omega, grow_drawnN _ hg⟩
              case measure => simp [intOf]; omega
        · obtain rfl : k = a.length := by omega
          obtain ⟨E, hE⟩ : ∃ E, E = epN a a.length + 1 := ⟨_, rfl⟩
          have hEi : (E : Int) = (epN a a.length : Int) + 1 := by omega
          have hEb : (E : Int) ≤ 301 := by omega
          have t0 : FindAt a b E w (.int .i64 ((0 : Nat) : Int)) (.int .i64 a.length) wr := ⟨0, a.length, rfl, rfl, Nat.le_refl _, cm_le a b, Nat.zero_le _, ⟨by omega, .inr (by omega)⟩, hg⟩
          have T0 : FindAt a b E w (.int .i64 0) (.int .i64 a.length) wr := t0
          have HEE := Lib.hid hEi
          clear hE t0 hek hek1 hek0 hg hEi
          go_wp2
          rw [← HEE.out]
          go_loopw [54, 7] (fun i q wr => FindAt a b E w i q wr) (fun i _ _ => E - (intOf i).toNat)
          case atStart => exact T0
          case round =>
            clear T0
            obtain ⟨j, n, rfl, rfl, hn, hcm, hj, hen, hg⟩ := hrel
            have hjE : j < E := by have := hen.1; omega
            have hjEi : decide ((j : Int) < E) = true := decide_eq_true (by omega)
            have hni : (n : Int) ≤ a.length := by omega
            have HEN := Lib.hid hen
            have HCM := Lib.hid hcm
            have hra2 := Lib.hid (hra.kept hg)
            have hrb2 := Lib.hid (hrb.kept hg)
            clear hen hcm
            go_upto_region 13 with (fail)
            go_cut [76] (fun v wx => StopB a b n v ∧ wr.grownBy wx none)
            case first =>
              rcases n with _ | n
              · go_wp2
                go_quiet (fail)
                go_wp2
                go_meet
                exact ⟨⟨true, rfl, fun _ => .inl rfl, fun h => by cases h⟩, grow_drawnN _ (grow_refl _ _)⟩
              · obtain ⟨b1, o1, rfl, c1, _⟩ := row_int hra2.out rfl (show n < a.length by omega)
                obtain ⟨s1, hs1⟩ : ∃ x, x = a.getD n 0 := ⟨_, rfl⟩
                rw [← hs1] at c1
                have hz : ((n : Int) + 1 == 0) = false := by rw [beq_eq_false_iff_ne]; omega
                have k1 : (n : Int) < a.length := by omega
                have k0 : (0 : Int) ≤ n := by omega
                by_cases hle : n + 1 ≤ b.length
                · obtain ⟨b2, o2, rfl, c2, _⟩ := row_int hrb2.out rfl (show n < b.length by omega)
                  obtain ⟨s2, hs2⟩ : ∃ x, x = b.getD n 0 := ⟨_, rfl⟩
                  rw [← hs2] at c2
                  have k2 : (n : Int) < b.length := by omega
                  have d2 : decide ((n : Int) + 1 ≤ b.length) = true := decide_eq_true (by omega)
                  by_cases heq : s2 = s1
                  · have hq : (s2 == s1) = true := by rw [beq_iff_eq]; exact heq
                    have HST : Hid (Stops a b (n + 1)) := .inr ⟨hle, by rw [Nat.add_sub_cancel, ← hs1, ← hs2]; exact heq⟩
                    clear hs1 hs2 heq
                    go_wp2
                    go_quiet (fail)
                    go_wp2
                    go_meet
                    exact ⟨⟨true, rfl, fun _ => HST.out, fun h => by cases h⟩, grow_drawnN _ (grow_refl _ _)⟩
                  · have hq : (s2 == s1) = false := by rw [beq_eq_false_iff_ne]; exact heq
                    have HST : Hid (¬ Stops a b (n + 1)) := by
                      rintro (h | ⟨_, h⟩)
                      · omega
                      · rw [Nat.add_sub_cancel, ← hs1, ← hs2] at h; exact heq h
                    clear hs1 hs2 heq
                    go_wp2
                    go_quiet (fail)
                    go_wp2
                    go_meet
                    exact ⟨⟨false, rfl, (fun h => by cases h), fun _ => HST.out⟩, grow_drawnN _ (grow_refl _ _)⟩
                · have d2 : decide ((n : Int) + 1 ≤ b.length) = false := decide_eq_false (by omega)
                  have HST : Hid (¬ Stops a b (n + 1)) := by
                    rintro (h | ⟨h, _⟩)
                    · omega
                    · omega
                  clear hs1
                  go_wp2
                  go_quiet (fail)
                  go_wp2
                  go_meet
                  exact ⟨⟨false, rfl, (fun h => by cases h), fun _ => HST.out⟩, grow_drawnN _ (grow_refl _ _)⟩
            case rest =>
              obtain ⟨⟨bo, rfl, hb1, hb2⟩, hgx⟩ := hcut
              have HB1 := Lib.hid hb1
              have HB2 := Lib.hid hb2
              have hgc := grow_none hg hgx
              have hra3 := hra2.out.kept hgx
              have hrb3 := hrb2.out.kept hgx
              have HRA := Lib.hid hra3
              have HRB := Lib.hid hrb3
              clear hb1 hb2 hg hgx hra2 hrb2 hra3 hrb3
              cases bo with
              | true =>
                have HF : Hid (cmN [a, b] = n) := (cm_stop hn (HB1.out rfl) HCM.out).symm
                go_wp2_with fail
                refine (refCommon_any _ [a, b] _ (rows_pair HRA.out HRB.out _ _) (by show 2 ≤ 2 ^ 63 - 1; omega) (by intro l hl; simp at hl; rcases hl with rfl | rfl; exact HA6.out; exact HB6.out)).mono ?_
                rintro e w8 ⟨rfl, g8⟩
                rw [HF.out]
                go_wp2
                go_ret
                exact ⟨rfl, below_of_none (grow_none hgc (grow_none (World.grownBy_alloc _ _ _) g8))⟩
              | false =>
                obtain ⟨wd, rfl⟩ : ∃ wd : World, wd = wc := ⟨_, rfl⟩
                have hns := HB2.out rfl
                obtain ⟨m, rfl⟩ : ∃ m, n = m + 1 := by
                  rcases n with _ | m
                  · exact absurd (.inl rfl) hns
                  · exact ⟨m, rfl⟩
                obtain ⟨bb2, off2, e2, c1, _⟩ := row_int HRA.out rfl (show m < a.length by omega)
                obtain ⟨s, hs⟩ : ∃ x, x = a.getD m 0 := ⟨_, rfl⟩
                rw [← hs] at c1
                have hcell : ∀ W : World, wd.grownBy W none → W.cell? ⟨bb2, off2 + m, none⟩ = some (.int .i64 s) := fun W hW => by
                  rw [← c1]; exact World.cell?_of_block (hW.block bb2 (World.block_lt_of_cell? wd _ c1) (by simp))
                subst e2
                obtain ⟨T, hT⟩ : ∃ T, T = stepN a b (m + 1) := ⟨_, rfl⟩
                have hT2 : nextN a (hintN b ((m : Int) + 1) s : Nat) (hintE b ((m : Int) + 1) s) = T := by
                  rw [hT]
                  unfold stepN
                  rw [Nat.add_sub_cancel, ← hs, show ((m + 1 : Nat) : Int) = (m : Int) + 1 by omega]
                have hTlt : T ≤ m := by
                  have := stepN_lt a b (show 1 ≤ m + 1 by omega)
                  omega
                have HT2 := Lib.hid hT2
                have HCM2 : Hid (cmN [a, b] ≤ T) := by show _ ≤ _; rw [hT]; exact cm_keeps HS1.out HS2.out hn hns HCM.out
                have HEN2 : Hid (Enough a b T (E - (j + 1))) := by
                  show Enough _ _ _ _
                  rw [hT]
                  refine enough_step HS1.out hn hns ?_
                  rw [show E - (j + 1) + 1 = E - j by omega]
                  exact HEN.out
                have hf : -9223372036854775808 ≤ (m : Int) + 1 ∧ (m : Int) + 1 ≤ 9223372036854775807 := by omega
                have HF := Lib.hid hf
                have HBN : Hid (hintN b ((m : Int) + 1) s ≤ 300) := by
                  show _ ≤ _
                  have := dn_le b s (cutN ((m : Int) + 1 - 1) b.length)
                  have e : hintN b ((m : Int) + 1) s ≤ cutN ((m : Int) + 1 - 1) b.length := this
                  unfold cutN at e
                  have := HB3.out
                  omega
                have hsum : IntKind.i64.wrap ((m : Int) + 1 - 1) = (m : Int) := by
                  rw [IntKind.wrap_i64]; omega
                have hsum2 : IntKind.i64.wrap (m : Int) = (m : Int) := by
                  rw [IntKind.wrap_i64]; omega
                have m0 : (0 : Int) ≤ m := by omega
                have m1 : (m : Int) < a.length := by omega
                have HS := Lib.hid hs
                have HNS := Lib.hid hns
                clear hs hT hT2 hf c1 hns
                go_wp2
                go_upto_region 15 with (fail)
                go_cut [8] (fun v wx => HintBox wd (hintN b ((m : Int) + 1) s) (hintE b ((m : Int) + 1) s) v wx)
                case first =>
                  refine wp_region_tail _ (fun w => wd.grownBy w none) (fun w w' => w.grownBy w' none) rfl (by kernel_rfl) (by kernel_rfl) (by kernel_rfl) (fun w => grow_refl w none) (grow_drawn (grow_refl _ _)) ?_
                  repeat (refine wpRel_det ?_; apply Exists.intro; refine ⟨fun w hI => ?_, ?_⟩; focus (go_simp; exact ⟨rfl, grow_refl _ _⟩))
                  refine wpRel_step (fun v w => RowAt w v (b.map (Value.int .i64))) (fun v w w' hr h => h.kept hr) (fun w hI => ?_) ?_
                  focus (go_simp; exact own_rel _ b _ (HRB.out.kept hI) HB6.out hI)
                  repeat (refine wpRel_det ?_; apply Exists.intro; refine ⟨fun w hI => ?_, ?_⟩; focus (go_simp; first | exact ⟨rfl, grow_refl _ _⟩ | (intro v hv; exact Hint_rel _ b _ _ _ hv HLB.out HF.out hI)))
                  refine wpRel_step (fun v w => NewSpot wd v w) (fun v w w' hr h => h.kept hr) (fun w hI => ?_) ?_
                  focus (go_simp; exact ⟨⟨_, rfl, hI.size, Blk.new w 108 [.int .i64 0, .int .i64 0]⟩, grow_none hI (World.grownBy_alloc _ _ _), World.grownBy_alloc _ _ _⟩)
                  refine wpRel_nil ?_
                  intro w' hI
                  go_simp
                  intro v1 _ v8 h8
                  obtain ⟨g, rfl, hg8, hx8⟩ := h8
                  have c0 : w'.cell? ⟨g, 0, none⟩ = some (.int .i64 0) := hx8.cell 0 (by simp)
                  have c1 : w'.cell? ⟨g, 1, none⟩ = some (.int .i64 0) := hx8.cell 1 (by simp)
                  have f0 := hx8.frozen 0
                  have f1 := hx8.frozen 1
                  go_wp2
                  go_meet
                  exact ⟨g, rfl, hg8, (hx8.set_ 0 _).set_ 1 _, grow_setnew (grow_setnew hI hg8 _) hg8 _⟩
                case rest =>
                  obtain ⟨g, rfl, hg8, hx8, hgc8⟩ := hcut
                  obtain ⟨N, hN⟩ : ∃ N, N = hintN b ((m : Int) + 1) s := ⟨_, rfl⟩
                  obtain ⟨H, hH⟩ : ∃ H, H = hintE b ((m : Int) + 1) s := ⟨_, rfl⟩
                  rw [← hN, ← hH] at HT2 hx8
                  rw [← hN] at HBN
                  have hc0 : ∀ W : World, wc.grownBy W none → W.cell? ⟨g, 0, none⟩ = some (.int .i64 (N : Int)) := fun W hW => (hx8.keep hW).cell 0 (by simp)
                  have hc1 : ∀ W : World, wc.grownBy W none → W.cell? ⟨g, 1, none⟩ = some (.int .i64 H) := fun W hW => (hx8.keep hW).cell 1 (by simp)
                  have hgc2 := grow_none hgc hgc8
                  have HRA2 := Lib.hid (HRA.out.kept hgc8)
                  have d1 : decide ((m : Int) + 1 ≤ T) = false := decide_eq_false (by omega)
                  have d2 : decide ((T : Int) < 0) = false := decide_eq_false (by omega)
                  clear hN hH hcell hsum hsum2
                  go_wp2
                  refine wp_region_rel (fun w => wc.grownBy w none) (fun w w' => w.grownBy w' none) (by kernel_rfl) (by kernel_rfl) (fun w => grow_refl w none) (grow_drawn (grow_refl _ _)) ?_
                  repeat (refine wpRel_det ?_; apply Exists.intro; refine ⟨fun w hI => ?_, ?_⟩; focus (go_simp; exact ⟨rfl, grow_refl _ _⟩))
                  refine wpRel_step (fun v w => RowAt w v (a.map (Value.int .i64))) (fun v w w' hr h => h.kept hr) (fun w hI => ?_) ?_
                  focus (go_simp; exact own_rel _ a _ (HRA2.out.kept hI) HA6.out hI)
                  repeat (refine wpRel_det ?_; apply Exists.intro; refine ⟨fun w hI => ?_, ?_⟩; focus (go_simp; first | exact ⟨rfl, grow_refl _ _⟩ | (intro v hv; exact Next_rel _ a _ _ _ hv HLA.out ⟨by have := HBN.out; omega, by have := HBN.out; omega⟩ hI)))
                  refine wpRel_nil ?_
                  intro w' hI
                  rw [HT2.out]
                  go_simp
                  intro v1 _
                  go_wp2
                  go_roundw
                  case rel => exact ⟨j + 1, T, by go_num, rfl, by omega, HCM2.out, by omega, HEN2.out, grow_none hgc2 hI⟩
                  case measure => simp [intOf]; omega
end Go.Proofs.Ytkmpcncehicpmaa
