/- The law SeamHints: its walk. -/
import Derived.Test.YtkmpcncehicpmaaSmF
namespace Go.Proofs.Ytkmpcncehicpmaa
open Go.RowKit
set_option linter.unusedVariables false
theorem Hint_rel {w0 : World} (v : Value) (l : List Int) (after since : Int) (w : World) (hr : RowAt w v (l.map (Value.int .i64))) (hl : l.length ≤ maxLen) (hb : -9223372036854775808 ≤ after ∧ after ≤ 9223372036854775807) (hI : w0.grownBy w none) :
    Calls Try.prog 79 #[v, .int .i64 after, .int .i64 since] w fun e w' => ∃ u, e = .returned u ∧ u = .agg #[.int .i64 (hintN l after since : Nat), .int .i64 (hintE l after since)] ∧ w0.grownBy w' none ∧ w.grownBy w' none :=
  (Hint_any v l after since w hr hl hb).mono fun e w' ⟨he, g⟩ => ⟨_, he, rfl, grow_none hI g, g⟩
theorem refHint_rel {w0 : World} (v : Value) (l : List Int) (after since : Int) (w : World) (hr : RowAt w v (l.map (Value.int .i64))) (hl : l.length ≤ 1000000) (hb : -9223372036854775808 ≤ after ∧ after ≤ 9223372036854775807) (hI : w0.grownBy w none) :
    Calls Try.prog 80 #[v, .int .i64 after, .int .i64 since] w fun e w' => ∃ u, e = .returned u ∧ u = .agg #[.int .i64 (hintN l after since : Nat), .int .i64 (hintE l after since)] ∧ w0.grownBy w' none ∧ w.grownBy w' none :=
  (refHint_any v l after since w hr hl hb).mono fun e w' ⟨he, g⟩ => ⟨_, he, rfl, grow_none hI g, g⟩
theorem Next_rel {w0 : World} (v : Value) (l : List Int) (hn he : Int) (w : World) (hr : RowAt w v (l.map (Value.int .i64))) (hl : l.length ≤ maxLen) (hb : -9223372036854775808 ≤ hn ∧ hn ≤ 9223372036854775807) (hI : w0.grownBy w none) :
    Calls Try.prog 81 #[v, .agg #[.int .i64 hn, .int .i64 he]] w fun e w' => ∃ u, e = .returned u ∧ u = .int .i64 (nextN l hn he : Nat) ∧ w0.grownBy w' none ∧ w.grownBy w' none :=
  (Next_any v l hn he w hr hl hb).mono fun e w' ⟨he, g⟩ => ⟨_, he, rfl, grow_none hI g, g⟩
theorem refNext_rel {w0 : World} (v : Value) (l : List Int) (hn he : Int) (w : World) (hr : RowAt w v (l.map (Value.int .i64))) (hl : l.length ≤ maxLen) (hs : l.length ≤ 1000000) (hI : w0.grownBy w none) :
    Calls Try.prog 82 #[v, .agg #[.int .i64 hn, .int .i64 he]] w fun e w' => ∃ u, e = .returned u ∧ u = .int .i64 (nextN l hn he : Nat) ∧ w0.grownBy w' none ∧ w.grownBy w' none :=
  (refNext_any v l hn he w hr hl hs).mono fun e w' ⟨he, g⟩ => ⟨_, he, rfl, grow_none hI g, g⟩
theorem own_rel {w0 : World} (v : Value) (l : List Int) (w : World) (hr : RowAt w v (l.map (Value.int .i64))) (hl : l.length ≤ 1000000) (hI : w0.grownBy w none) :
    Calls Try.prog 76 #[v] w fun e w' => ∃ u, e = .returned u ∧ RowAt w' u (l.map (Value.int .i64)) ∧ w0.grownBy w' none ∧ w.grownBy w' none :=
  (own_any v l w hr hl).mono fun e w' ⟨u, he, h1, h2, g⟩ => ⟨u, he, h1, grow_none hI g, g⟩
set_option maxRecDepth 100000 in
set_option maxHeartbeats 1000000 in
theorem law_SeamHints (v : Value) (l : List Int) {w : World} (hr : RowAt w v (l.map (Value.int .i64))) (hw : ∀ n ∈ l, -9223372036854775808 ≤ n ∧ n ≤ 9223372036854775807) (hl : l.length ≤ maxLen) (after : Int) (ha : -9223372036854775808 ≤ after ∧ after ≤ 9223372036854775807)
    (since : Int) (hsi : -9223372036854775808 ≤ since ∧ since ≤ 9223372036854775807) (hn : Int) (he : Int) (hb : -9223372036854775808 ≤ hn ∧ hn ≤ 9223372036854775807) (_ : World) :
    Calls Try.prog 22 #[v, .int .i64 after, .int .i64 since, .agg #[.int .i64 hn, .int .i64 he]] w fun e w' => e = .returned (.bool true) ∧ Below w.heap.size w w' := by
  have xb : Blk (w.alloc (.cells #[.int .i64 hn, .int .i64 he] 108)) w.heap.size 108 [.int .i64 hn, .int .i64 he] := Blk.new _ _ _
  have G1 := World.grownBy_alloc w (.cells #[.int .i64 hn, .int .i64 he] 108) none
  have hl63 : (l.length : Int) ≤ 9223372036854775807 := by unfold maxLen at hl; omega
  have HL := Lib.hid hl
  have HA := Lib.hid ha
  have HB := Lib.hid hb
  have HF : ∃ a c, v = .slice a l.length c := by
    obtain ⟨a, c, e⟩ := hr.len
    exact ⟨a, c, by rw [e, List.length_map]⟩
  obtain ⟨a, c, rfl⟩ := HF
  clear hw hl ha hsi hb
  by_cases h2 : 2000 < l.length
  · have h2' : decide ((2000 : Int) < l.length) = true := decide_eq_true (by omega)
    go_enter Try.func22, Try.ntmps22
    go_wp2_with fail
    refine (awake17_any _).mono ?_
    rintro e w2 ⟨rfl, g2⟩
    go_wp2_with fail
    refine (awake17_any _).mono ?_
    rintro e w3 ⟨rfl, g3⟩
    have G3 := grow_none G1 (grow_none g2 g3)
    clear g2 g3
    go_wp2
    go_ret
    exact ⟨rfl, below_of_none G3⟩
  · have h2' : decide ((2000 : Int) < l.length) = false := decide_eq_false (by omega)
    have hs : l.length ≤ 1000000 := by omega
    have HS := Lib.hid hs
    clear hs h2
    go_enter Try.func22, Try.ntmps22
    go_wp2_with fail
    refine (awake17_any _).mono ?_
    rintro e w2 ⟨rfl, g2⟩
    have G2 := grow_none G1 g2
    have x2 := xb.keep g2
    have r2 := hr.kept G2
    clear g2 xb hr
    go_wp2_with fail
    have hc0 : ∀ W : World, w2.grownBy W none → W.cell? ⟨w.heap.size, 0, none⟩ = some (.int .i64 hn) := fun W hW => (x2.keep hW).cell 0 (by simp)
    have hc1 : ∀ W : World, w2.grownBy W none → W.cell? ⟨w.heap.size, 1, none⟩ = some (.int .i64 he) := fun W hW => (x2.keep hW).cell 1 (by simp)
    refine wp_region_rel (fun w => w2.grownBy w none) (fun w w' => w.grownBy w' none) (by kernel_rfl) (by kernel_rfl) (fun w => grow_refl w none) (grow_drawn (grow_refl _ _)) ?_
    repeat (refine wpRel_det ?_; apply Exists.intro; refine ⟨fun w hI => ?_, ?_⟩; focus (go_simp; exact ⟨rfl, grow_refl _ _⟩))
    refine wpRel_step (fun v w => RowAt w v (l.map (Value.int .i64))) (fun v w w' hr h => h.kept hr) (fun w hI => ?_) ?_
    focus (go_simp; exact own_rel _ l _ (r2.kept hI) HS.out hI)
    repeat (refine wpRel_det ?_; apply Exists.intro; refine ⟨fun w hI => ?_, ?_⟩; focus (go_simp; first | exact ⟨rfl, grow_refl _ _⟩ | (intro v hv; exact Hint_rel _ l _ _ _ hv HL.out HA.out hI) | exact refHint_rel _ l _ _ _ (r2.kept hI) HS.out HA.out hI))
    refine wpRel_step (fun v w => RowAt w v (l.map (Value.int .i64))) (fun v w w' hr h => h.kept hr) (fun w hI => ?_) ?_
    focus (go_simp; exact own_rel _ l _ (r2.kept hI) HS.out hI)
    repeat (refine wpRel_det ?_; apply Exists.intro; refine ⟨fun w hI => ?_, ?_⟩; focus (go_simp; first | exact ⟨rfl, grow_refl _ _⟩ | (intro v hv; exact Next_rel _ l _ _ _ hv HL.out HB.out hI) | exact refNext_rel _ l _ _ _ (r2.kept hI) HL.out HS.out hI))
    refine wpRel_nil ?_
    intro w' hI
    go_simp
    intro v1 _ v2 _
    go_wp2
    go_ret
    exact ⟨rfl, below_of_none (grow_none G2 hI)⟩
end Go.Proofs.Ytkmpcncehicpmaa
