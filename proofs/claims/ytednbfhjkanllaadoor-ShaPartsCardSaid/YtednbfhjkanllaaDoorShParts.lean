/- The law ShaParts: its walk. -/
import Derived.Test.YtednbfhjkanllaaDoorShL
import Derived.IntWalk
namespace Go.Proofs.YtednbfhjkanllaaDoor
open Go.RowKit
set_option linter.unusedVariables false
theorem mod_posN (a : Int) (m : Nat) (h0 : 0 < m) (hm : m ≤ 1000000000) : ∃ k : Nat, k < m ∧ (IntKind.u64.wrap a).tmod (m : Int) = (k : Int) := by
  have e : IntKind.u64.wrap a = a % 18446744073709551616 := by simp [IntKind.wrap, IntKind.signed, IntKind.bits]
  have h1 : 0 ≤ IntKind.u64.wrap a := by rw [e]; omega
  rw [Int.tmod_eq_emod_of_nonneg h1]
  have h2 := Int.emod_nonneg (IntKind.u64.wrap a) (b := (m : Int)) (by omega)
  have h3 := Int.emod_lt_of_pos (IntKind.u64.wrap a) (b := (m : Int)) (by omega)
  exact ⟨((IntKind.u64.wrap a) % (m : Int)).toNat, by omega, by omega⟩
theorem shaS_len (s : ByteArray) : (shaS s).length = 32 := by
  unfold shaS
  rw [digB_len, stN_len _ (stN_len s rfl _)]
theorem ext_list (s : ByteArray) (a b : Nat) : (s.extract a b).data.toList = (s.data.toList.drop a).take (b - a) := by
  have h : (⟨s.data.toList.toArray⟩ : ByteArray).extract a b = _ := ByteArray.extract_mk s.data.toList a b
  have e : (⟨s.data.toList.toArray⟩ : ByteArray) = s := by apply ByteArray.ext; simp
  rw [e] at h
  rw [h]
theorem three_parts (s : ByteArray) (lo hi : Nat) (h1 : lo ≤ hi) (h2 : hi ≤ s.size) : allB [s.extract 0 lo, s.extract lo hi, ⟨#[]⟩, s.extract hi s.size] = s.data.toList := by
  have hl : s.data.toList.length = s.size := by rw [Array.length_toList]; rfl
  unfold allB
  simp only [List.flatMap_cons, List.flatMap_nil, List.append_nil]
  rw [ext_list, ext_list, ext_list, List.drop_zero, Nat.sub_zero]
  rw [show (List.drop hi s.data.toList).take (s.size - hi) = List.drop hi s.data.toList from List.take_of_length_le (by rw [List.length_drop, hl]; omega)]
  have e1 : List.drop hi s.data.toList = List.drop (hi - lo) (List.drop lo s.data.toList) := by rw [List.drop_drop]; congr 1; omega
  rw [List.nil_append, e1, List.take_append_drop, List.take_append_drop]
def Four (a b c : ByteArray) (v : Value) (w : World) : Prop := CapOk v ∧ RowAt w v ([a, b, ⟨#[]⟩, c].map Value.string)
theorem Four.kept {a b c : ByteArray} {v : Value} {w w' : World} (h : Four a b c v w) (g : w.grownBy w' none) : Four a b c v w' := ⟨h.1, h.2.kept g⟩
theorem Four.new (a b c : ByteArray) (w : World) : Four a b c (.slice (some ⟨w.heap.size, 0, none⟩) 4 4) (w.alloc (.cells #[.string a, .string b, .string ⟨#[]⟩, .string c] 9)) :=
  ⟨capok_lit _ _, RowAt.lit w ([a, b, ⟨#[]⟩, c].map Value.string) 9 4 4 rfl⟩
theorem Sum_rel {w0 : World} (a b c : ByteArray) (v : Value) (w : World) {A : ByteArray} (hA : A = ⟨(shaS ⟨(allB [a, b, ⟨#[]⟩, c]).toArray⟩).toArray⟩) (hb : (allB [a, b, ⟨#[]⟩, c]).length ≤ 100000000) (hv : Four a b c v w) (hm : Tb w0) (hI : w0.grownBy w none) :
    Calls Tryd.prog 9 #[v] w fun e w' => ∃ u, e = .returned u ∧ u = .string A ∧ w0.grownBy w' none ∧ w.grownBy w' none :=
  (Sum_any v [a, b, ⟨#[]⟩, c] w hv.2 hv.1 (by simp) hb (hm.kept hI).1 (hm.kept hI).2).mono fun e w' ⟨he, g⟩ => ⟨_, he, by rw [hA], grow_none hI g, g⟩
set_option maxRecDepth 100000 in
set_option maxHeartbeats 4000000 in
theorem law_ShaParts (s : ByteArray) (hs : s.size ≤ maxLen) (a : Int) (ha : -9223372036854775808 ≤ a ∧ a ≤ 9223372036854775807) (b : Int) (hb : -9223372036854775808 ≤ b ∧ b ≤ 9223372036854775807) {w : World} (hm : Tb w) :
    Calls Tryd.prog 4 #[.string s, .int .i64 a, .int .i64 b] w fun e w' => e = .returned (.bool true) ∧ Below w.heap.size w w' := by
  have hsi : (s.size : Int) ≤ 9223372036854775807 := by unfold maxLen at hs; omega
  clear hs ha hb
  by_cases h1 : 4096 < s.size
  · have e1 : decide ((4096 : Int) < s.size) = true := decide_eq_true (by omega)
    go_enter Tryd.func4, Tryd.ntmps4
    go_wp2_with fail
    refine (awake03_any _ hm).mono ?_
    rintro e w2 ⟨rfl, g2⟩
    have m2 := hm.kept g2
    go_wp2_with fail
    refine (awake03_any _ m2).mono ?_
    rintro e w3 ⟨rfl, g3⟩
    have G3 := grow_none g2 g3
    clear g2 g3
    go_wp2
    go_ret
    exact ⟨rfl, below_of_none G3⟩
  · have e1 : decide ((4096 : Int) < s.size) = false := decide_eq_false (by omega)
    have hs1 : s.size ≤ 4096 := by omega
    have hs2 : (s.size : Int) ≤ 4096 := by omega
    have hl : s.data.toList.length = s.size := by rw [Array.length_toList]; rfl
    obtain ⟨ka, hka, hkae⟩ := mod_posN a (s.size + 1) (by omega) (by omega)
    obtain ⟨kb, hkb, hkbe⟩ := mod_posN b (s.size + 1) (by omega) (by omega)
    have ea : (IntKind.u64.wrap a).tmod ((s.size : Int) + 1) = (ka : Int) := by rw [← hkae]; congr 1
    have eb : (IntKind.u64.wrap b).tmod ((s.size : Int) + 1) = (kb : Int) := by rw [← hkbe]; congr 1
    obtain ⟨lo, hlo⟩ : ∃ lo, lo = min ka kb := ⟨_, rfl⟩
    obtain ⟨hi, hhi⟩ : ∃ hi, hi = max ka kb := ⟨_, rfl⟩
    have emin : min (ka : Int) (kb : Int) = (lo : Int) := by omega
    have emax : max (ka : Int) (kb : Int) = (hi : Int) := by omega
    have l1 : lo ≤ hi := by omega
    have l2 : hi ≤ s.size := by omega
    have i1 : (lo : Int) ≤ hi := by omega
    have i2 : (hi : Int) ≤ s.size := by omega
    have i3 : (lo : Int) ≤ s.size := by omega
    have i4 : (ka : Int) ≤ s.size := by omega
    have i5 : (kb : Int) ≤ s.size := by omega
    have w1 : IntKind.i64.wrap ((s.size : Int) + 1) = (s.size : Int) + 1 := wrapI (by omega) (by omega)
    have w2' : IntKind.u64.wrap ((s.size : Int) + 1) = (s.size : Int) + 1 := by rw [IntKind.wrap_u64]; omega
    have w3' : IntKind.i64.wrap (ka : Int) = (ka : Int) := wrapI (by omega) (by omega)
    have w4' : IntKind.i64.wrap (kb : Int) = (kb : Int) := wrapI (by omega) (by omega)
    have HPS := Lib.hid (three_parts s lo hi l1 l2)
    obtain ⟨p, hp⟩ : ∃ p, s.extract 0 lo = p := ⟨_, rfl⟩
    obtain ⟨q, hq⟩ : ∃ q, s.extract lo hi = q := ⟨_, rfl⟩
    obtain ⟨r, hr⟩ : ∃ r, s.extract hi s.size = r := ⟨_, rfl⟩
    rw [hp, hq, hr] at HPS
    have hself : (⟨s.data.toList.toArray⟩ : ByteArray) = s := by apply ByteArray.ext; simp
    obtain ⟨X, hX⟩ : ∃ X : ByteArray, X = ⟨(shaS s).toArray⟩ := ⟨_, rfl⟩
    have hX2 : X = ⟨(shaS ⟨(allB [p, q, ⟨#[]⟩, r]).toArray⟩).toArray⟩ := by rw [HPS.out, hself, hX]
    have hX1 : (⟨(shaS ⟨(allB [s]).toArray⟩).toArray⟩ : ByteArray) = X := by
      rw [show allB [s] = s.data.toList by unfold allB; simp, hself, hX]
    have hb8 : (allB [p, q, ⟨#[]⟩, r]).length ≤ 100000000 := by rw [HPS.out, hl]; omega
    have hXs : ((X.size : Int) == 32) = true := by
      rw [beq_iff_eq, hX]
      show (((shaS s).toArray.size : Nat) : Int) = 32
      rw [List.size_toArray, shaS_len]; rfl
    have hz0 : ((s.size : Int) + 1 = 0) = False := by simp; omega
    have HX1 := Lib.hid hX1
    have HX2 := Lib.hid hX2
    have HB8 := Lib.hid hb8
    clear h1 hka hkb hkae hkbe hlo hhi hself hX hX1 hX2 hb8 l1 l2 hl
    go_enter Tryd.func4, Tryd.ntmps4
    go_wp2_with fail
    refine (awake03_any _ hm).mono ?_
    rintro e w2 ⟨rfl, g2⟩
    go_wp2
    go_quiet (fail)
    have hI3 : w2.grownBy (w2.drewN nq) none := grow_drawnN _ (grow_refl _ _)
    generalize w2.drewN nq = w3 at hI3 ⊢
    have G3 := grow_none g2 hI3
    have m3 := hm.kept G3
    have gA := World.grownBy_alloc w3 (.cells #[Value.string s] 9) none
    go_wp2_with fail
    refine (Sum_any _ [s] _ (RowAt.lit w3 [Value.string s] _ _ _ rfl) (capok_lit _ _) (by simp) (by unfold allB; simp; omega) (m3.kept gA).1 (m3.kept gA).2).mono ?_
    rintro e w4 ⟨rfl, g4⟩
    rw [HX1.out]
    have G4 := grow_none (grow_none G3 gA) g4
    have m4 := hm.kept G4
    clear gA g4 G3 m3 hI3 g2
    go_wp2
    refine wp_region_rel (fun W => w4.grownBy W none) (fun W W' => W.grownBy W' none) (by kernel_rfl) (by kernel_rfl) (fun W => grow_refl W none) (grow_drawn (grow_refl _ _)) ?_
    repeat (refine wpRel_det ?_; apply Exists.intro; refine ⟨fun W hI => ?_, ?_⟩; focus (go_simp; first | exact ⟨rfl, grow_refl _ _⟩))
    refine wpRel_step (fun v W => Four p q r v W) (fun v W W' hr h => h.kept hr) (fun W hI => ?_) ?_
    focus (go_simp; exact ⟨Four.new _ _ _ W, grow_none hI (World.grownBy_alloc _ _ _), World.grownBy_alloc _ _ _⟩)
    refine wpRel_det ?_; apply Exists.intro; refine ⟨fun W hI => ?_, ?_⟩
    focus (go_simp; intro v hv; exact Sum_rel p q r v _ HX2.out HB8.out hv m4 hI)
    repeat (refine wpRel_det ?_; apply Exists.intro; refine ⟨fun W hI => ?_, ?_⟩; focus (go_simp; first | exact ⟨rfl, grow_refl _ _⟩))
    refine wpRel_nil ?_
    intro w5 hI5
    go_simp
    intro v1 _
    go_wp2
    go_ret
    exact ⟨rfl, below_of_none (grow_none G4 hI5)⟩
end Go.Proofs.YtednbfhjkanllaaDoor
