/- The law PackJoins: its walk. -/
import Derived.Test.YtpoffplnkmmmkaaPkN
import Derived.Test.YtpoffplnkmmmkaaLLong
import Derived.Test.YtpoffplnkmmmkaaB1
namespace Go.Proofs.Ytpoffplnkmmmkaa
open Go.RowKit
set_option linter.unusedVariables false
theorem Try.info3 : (Try.prog.info? 3).map (fun i => (i.zero, i.size, i.bytes)) = some (some (.int .i64 0), 1, 8) := by kernel_rfl
theorem Try.info9 : (Try.prog.info? 9).map (fun i => (i.zero, i.size, i.bytes)) = some (some (.string ⟨#[]⟩), 1, 16) := by kernel_rfl
theorem row_drop {w : World} {a : Option Addr} {n m c : Nat} {xs ys : List Value} (h : RowAt w (.slice a (n + m) c) (xs ++ ys)) (hx : xs.length = n) (hy : ys.length = m) (hc : n + m ≤ c) :
    RowAt w (.slice (if c = n then a else Option.map (fun x => x.add n) a) m (c - n)) ys := by
  obtain ⟨a', c', e, h⟩ := h
  injection e with e1 e2 e3
  subst e1 e3
  refine ⟨_, _, by rw [hy], ?_⟩
  cases ys with
  | nil => exact .inl rfl
  | cons y ys =>
    rcases h with h | ⟨b, off, rfl, hb, hcell⟩
    · simp at h
    · have hne : ¬ c = n := by simp at hy; omega
      rw [if_neg hne]
      have e : (⟨b, off, none⟩ : Addr).add n = ⟨b, off + n, none⟩ := by
        unfold Addr.add
        by_cases h0 : n = 0
        · rw [if_pos h0, h0]; rfl
        · rw [if_neg h0]
      refine .inr ⟨b, off + n, by rw [Option.map_some, e], hb, fun j hj => ?_⟩
      have h2 := hcell (n + j) (by rw [List.length_append, hx]; omega)
      rw [← Nat.add_assoc] at h2
      rw [h2, List.getD_eq_getElem?_getD, List.getD_eq_getElem?_getD, List.getElem?_append_right (by omega), hx, Nat.add_sub_cancel_left]
/-- New blocks alone. -/
def Gr (w W : World) : Prop := w.grownBy W none
theorem Gr.g {w W : World} (h : Gr w W) : w.grownBy W none := h
theorem Gr.step {w W W' : World} (h : Gr w W) (g : W.grownBy W' none) : Gr w W' := grow_none h g
theorem own_form2 {w : World} {e : TypeId} {n : Nat} {v : Value} {xs : List Value} (h : w.ownsRow 0 e 1 v n xs) : ∃ a cap, v = .slice a n cap ∧ n ≤ cap ∧ cap ≤ 9223372036854775807 := by
  rcases h.2 with ⟨rfl, rfl⟩ | ⟨g, cap, cur, rfl, _, _, h1, h2, _⟩
  · exact ⟨none, 0, rfl, by omega, by omega⟩
  · unfold maxLen at h2
    exact ⟨_, cap, rfl, h1, by omega⟩
theorem numsB_app (a b : List Int) : numsB (a ++ b) = numsB a ++ numsB b := by simp [numsB]
theorem textsB_app (a b : List ByteArray) : textsB (a ++ b) = textsB a ++ textsB b := by simp only [textsB, List.flatMap_append]
theorem roomB_app (a b : List ByteArray) : roomB (a ++ b) = roomB a + roomB b := by simp only [roomB, List.map_append, List.sum_append]
/-- The law's last statement, as its own goal: what is left when both lists are put together. -/
theorem RowAt.take {w : World} {v : Value} {xs : List Value} (h : RowAt w v xs) {k : Nat} (hk : k ≤ xs.length) : ∀ a n c, v = .slice a n c → RowAt w (.slice a k c) (xs.take k) := by
  rintro a n c rfl
  obtain ⟨a', c', e, h⟩ := h
  injection e with e1 e2 e3
  subst e1 e3
  refine ⟨a, c, by rw [List.length_take, Nat.min_eq_left hk], ?_⟩
  rcases h with h | ⟨b, off, rfl, hb, hc⟩
  · exact .inl (by rw [h]; simp)
  · refine .inr ⟨b, off, rfl, hb, fun j hj => ?_⟩
    rw [List.length_take] at hj
    rw [hc j (by omega)]
    simp [show j < k by omega]
set_option maxRecDepth 100000 in
set_option maxHeartbeats 2000000 in
theorem joins_core (w : World) (va vb vc vd : Value) (a b : List Int) (c d : List ByteArray) (hra : RowAt w va (a.map (Value.int .i64))) (hrb : RowAt w vb (b.map (Value.int .i64)))
    (hrc : RowAt w vc (c.map Value.string)) (hrd : RowAt w vd (d.map Value.string))
    (hwa : ∀ x ∈ a, -9223372036854775808 ≤ x ∧ x ≤ 9223372036854775807) (hwb : ∀ x ∈ b, -9223372036854775808 ≤ x ∧ x ≤ 9223372036854775807)
    (hwc : ∀ s ∈ c, s.size ≤ maxLen) (hwd : ∀ s ∈ d, s.size ≤ maxLen) (hmc : c.length ≤ maxLen) (hmd : d.length ≤ maxLen) (ha : a.length ≤ 4096) (hb : b.length ≤ 4096) (hlc : longG c 0 = false) (hld : longG d 0 = false) :
    Calls Try.prog 8 #[va, vb, vc, vd] w fun e w' => e = .returned (.bool true) ∧ Below w.heap.size w w' := by
  obtain ⟨i0, hi, hz0, hz1, hz2⟩ := info_parts Try.info3
  obtain ⟨j0, ji, jz0, jz1, jz2⟩ := info_parts Try.info9
  obtain ⟨aa, ca, rfl⟩ := hra.len
  obtain ⟨ab, cb, rfl⟩ := hrb.len
  obtain ⟨ac, cc, rfl⟩ := hrc.len
  obtain ⟨ad, cd, rfl⟩ := hrd.len
  rw [List.length_map] at hra hrb hrc hrd ⊢
  rw [List.length_map, List.length_map, List.length_map]
  obtain ⟨hc1, hc2, hc3⟩ := room_of_short hlc
  obtain ⟨hd1, hd2, hd3⟩ := room_of_short hld
  have HWA := Lib.hid hwa
  have HWB := Lib.hid hwb
  have HLC := Lib.hid hlc
  have HLD := Lib.hid hld
  have HWC := Lib.hid hwc
  have HWD := Lib.hid hwd
  have HMC := Lib.hid hmc
  have HMD := Lib.hid hmd
  clear hwa hwb hlc hld hwc hwd hmc hmd
  have ha' : decide ((4096 : Int) < a.length) = false := by simp; omega
  have hb' : decide ((4096 : Int) < b.length) = false := by simp; omega
  go_enter Try.func8, Try.ntmps8
  go_wp2_with fail
  refine (awake_any _).mono ?_
  rintro e w1 ⟨rfl, g1⟩
  go_wp2_with fail
  refine (long_any _ c HWC.out _ (hrc.kept g1) HMC.out).mono ?_
  rintro e w2 ⟨rfl, rfl⟩
  rw [HLC.out]
  go_wp2_with fail
  refine (long_any _ d HWD.out _ (hrd.kept g1) HMD.out).mono ?_
  rintro e w2 ⟨rfl, rfl⟩
  rw [HLD.out]
  have r1 := (hra.kept g1).kept (World.grownBy_alloc w1 (.cells #[] 3) none)
  go_wp2_with (at_builtin; refine wpList_append_row _ rfl _ _ 22 rfl 3 i0 (.int .i64 0) 8 Try.underlying22 hi hz0 hz1 hz2 rfl _ _ _ rfl (own_empty _ _ _) _ (a.map (Value.int .i64)) rfl r1 (ones_i64 a) (by rw [List.length_map]; show _ ≤ 2^63-1; omega) (by rw [List.length_map]; omega) ?_)
  intro v2 w2 o2 g2 m2
  have G2 := grow_newblk (grow_none g1 (World.grownBy_alloc w1 (.cells #[] 3) none)) (newblk_at w w1.heap.size 0 0 g1.size 0) g2
  have n2 := (newblk_at w w1.heap.size 0 0 g1.size 0).moved (Nat.le_trans g1.size (World.grownBy_alloc w1 (.cells #[] 3) none).size) m2
  clear g1 g2 r1 m2
  have r2 := hrb.kept G2
  go_wp2_with (at_builtin; refine wpList_append_row _ rfl _ _ 22 rfl 3 i0 (.int .i64 0) 8 Try.underlying22 hi hz0 hz1 hz2 rfl _ _ _ rfl o2 _ (b.map (Value.int .i64)) rfl r2 (ones_i64 b) (by rw [List.length_map]; show _ ≤ 2^63-1; omega) (by rw [List.length_map]; omega) ?_)
  intro v3 w3 o3 g3 m3
  have G3 := grow_newblk G2 n2 g3
  have n3 := n2.moved G2.size m3
  clear G2 n2 g3 m3 r2 o2
  have r3 := (hrc.kept G3).kept (World.grownBy_alloc w3 (.cells #[] 9) none)
  go_wp2_with (at_builtin; refine wpList_append_row _ rfl _ _ 27 rfl 9 j0 (.string ⟨#[]⟩) 16 Try.underlying27 ji jz0 jz1 jz2 rfl _ _ _ rfl (own_empty _ _ _) _ (c.map Value.string) rfl r3 (ones_str c) (by rw [List.length_map]; show _ ≤ 2^63-1; omega) (by rw [List.length_map]; omega) ?_)
  intro v4 w4 o4 g4 m4
  have X4 := grow_newblk (World.grownBy_alloc w3 (.cells #[] 9) none) (newblk_at w3 w3.heap.size 0 0 (Nat.le_refl _) 0) g4
  have n4 := (newblk_at w3 w3.heap.size 0 0 (Nat.le_refl _) 0).moved (World.grownBy_alloc w3 (.cells #[] 9) none).size m4
  have o3' := own_keep o3 X4
  have G4 := grow_none G3 X4
  have r4 := hrd.kept G4
  clear g4 m4 r3
  go_wp2_with (at_builtin; refine wpList_append_row _ rfl _ _ 27 rfl 9 j0 (.string ⟨#[]⟩) 16 Try.underlying27 ji jz0 jz1 jz2 rfl _ _ _ rfl o4 _ (d.map Value.string) rfl r4 (ones_str d) (by rw [List.length_map]; show _ ≤ 2^63-1; omega) (by rw [List.length_map]; omega) ?_)
  intro v5 w5 o5 g5 m5
  have X5 := grow_newblk X4 n4 g5
  have o3'' := own_keep o3 X5
  have G5 := grow_none G3 X5
  clear o3 o3' G4 G3 X4 X5 o4 n4 g5 r4 m5
  obtain ⟨a3, c3, rfl, k3, l3⟩ := own_form2 o3''
  obtain ⟨a5, c5, rfl, k5, l5⟩ := own_form2 o5
  have q3 := RowAt.of_own o3''
  have q5 := RowAt.of_own o5
  clear o3'' n3
  rw [← List.map_append] at q3 q5
  go_wp2_with fail
  have hwab : ∀ x ∈ a ++ b, -9223372036854775808 ≤ x ∧ x ≤ 9223372036854775807 := by
    intro x hx
    rcases List.mem_append.1 hx with h | h
    · exact HWA.out x h
    · exact HWB.out x h
  have HWAB := Lib.hid hwab
  clear hwab
  have hlab : (a ++ b).length ≤ 1000000000000 := by simp; omega
  have hrcd : roomB (c ++ d) ≤ 1000000000000 := by rw [roomB_app]; omega
  have p3 : RowAt w5 (.slice a3 a.length c3) (a.map (Value.int .i64)) := by
    have := q3.take (k := a.length) (by simp) _ _ _ rfl
    rwa [← List.map_take, List.take_left] at this
  have p5 : RowAt w5 (.slice a5 c.length c5) (c.map Value.string) := by
    have := q5.take (k := c.length) (by simp) _ _ _ rfl
    rwa [← List.map_take, List.take_left] at this
  have pb : RowAt w5 (.slice ab b.length cb) (b.map (Value.int .i64)) := hrb.kept G5
  have pd : RowAt w5 (.slice (if c5 = c.length then a5 else Option.map (fun x => x.add c.length) a5) d.length (c5 - c.length)) (d.map Value.string) := by
    rw [List.map_append] at q5
    exact row_drop q5 (by simp) (by simp) k5
  have HAB := Lib.hid hlab
  have HCD := Lib.hid hrcd
  clear hlab hrcd hra hrb hrc hrd
  have sa : ((numsB a).length : Int) ≤ 40960 := by have := numsB_len a HWA.out; omega
  have sb : ((numsB b).length : Int) ≤ 40960 := by have := numsB_len b HWB.out; omega
  have sc : ((textsB c).length : Int) ≤ 163840 := by have := textsB_len c (by omega); omega
  have sd : ((textsB d).length : Int) ≤ 163840 := by have := textsB_len d (by omega); omega
  have eab := numsB_app a b
  have ecd := textsB_app c d
  have hap : ∀ x y : List UInt8, ((⟨x.toArray⟩ : ByteArray) ++ ⟨y.toArray⟩) = ⟨(x ++ y).toArray⟩ := ByteArray.mk_append_mk
  have hd6 : roomB d ≤ 1000000000000 := by omega
  have hc6 : roomB c ≤ 1000000000000 := by omega
  have ha6 : a.length ≤ 1000000000000 := by omega
  have hb6 : b.length ≤ 1000000000000 := by omega
  have HD6 := Lib.hid hd6
  have HC6 := Lib.hid hc6
  have HA6 := Lib.hid ha6
  have HB6 := Lib.hid hb6
  have hcl : (c.length : Int) ≤ 16384 := by omega
  have hdl : (d.length : Int) ≤ 16384 := by omega
  have hal : (a.length : Int) ≤ 4096 := by omega
  have hbl : (b.length : Int) ≤ 4096 := by omega
  clear hd6 hc6 ha6 hb6 hc1 hc2 hc3 hd1 hd2 hd3 HLC HLD HWC HWD HMC HMD ha' hb' hi hz0 hz1 hz2 ji jz0 jz1 jz2 ha hb
  have ne : Nonempty (Cls (Gr w5)) := Cls.ne (grow_refl w5 none)
  refine wp_region_class (Gr w5) (by kernel_rfl) (by kernel_rfl) (grow_drawn (grow_refl _ _)) ?_
  repeat (go_big_quiet_step ((first
    | (go_at_call_of 12 (Value.slice a3 (a.length + b.length) c3); exact (Nums_any _ (a ++ b) _ (q3.kept (Gr.g (Cls.h _))) HWAB.out HAB.out).mono fun e w' ⟨he, g'⟩ => ⟨he, ⟨w', Gr.step (Cls.h _) g'⟩, rfl⟩)
    | (go_at_call_of 12 (Value.slice a3 a.length c3); exact (Nums_any _ (a) _ (p3.kept (Gr.g (Cls.h _))) HWA.out HA6.out).mono fun e w' ⟨he, g'⟩ => ⟨he, ⟨w', Gr.step (Cls.h _) g'⟩, rfl⟩)
    | (go_at_call_of 12 (Value.slice ab b.length cb); exact (Nums_any _ (b) _ (pb.kept (Gr.g (Cls.h _))) HWB.out HB6.out).mono fun e w' ⟨he, g'⟩ => ⟨he, ⟨w', Gr.step (Cls.h _) g'⟩, rfl⟩)
    | (go_at_call_of 15 (Value.slice a5 (c.length + d.length) c5); exact (Text_any _ (c ++ d) _ (q5.kept (Gr.g (Cls.h _))) HCD.out).mono fun e w' ⟨he, g'⟩ => ⟨he, ⟨w', Gr.step (Cls.h _) g'⟩, rfl⟩)
    | (go_at_call_of 15 (Value.slice a5 c.length c5); exact (Text_any _ (c) _ (p5.kept (Gr.g (Cls.h _))) HC6.out).mono fun e w' ⟨he, g'⟩ => ⟨he, ⟨w', Gr.step (Cls.h _) g'⟩, rfl⟩)
    | (go_at_call 15; exact (Text_any _ d _ (pd.kept (Gr.g (Cls.h _))) HD6.out).mono fun e w' ⟨he, g'⟩ => ⟨he, ⟨w', Gr.step (Cls.h _) g'⟩, rfl⟩))))
  refine wpQuiet_nil ?_
  rintro _ ⟨xx, rfl⟩
  have HX : w.grownBy xx.w none := grow_none G5 xx.h
  go_wp2
  all_goals
    go_ret
    exact ⟨rfl, below_of_none HX⟩
set_option maxRecDepth 100000 in
set_option maxHeartbeats 2000000 in
theorem law_PackJoins (va : Value) (a : List Int) {w : World} (hra : RowAt w va (a.map (Value.int .i64))) (hwa : ∀ x ∈ a, -9223372036854775808 ≤ x ∧ x ≤ 9223372036854775807) (hma : a.length ≤ maxLen)
    (vb : Value) (b : List Int) (hrb : RowAt w vb (b.map (Value.int .i64))) (hwb : ∀ x ∈ b, -9223372036854775808 ≤ x ∧ x ≤ 9223372036854775807) (hmb : b.length ≤ maxLen)
    (vc : Value) (c : List ByteArray) (hrc : RowAt w vc (c.map Value.string)) (hwc : ∀ s ∈ c, s.size ≤ maxLen) (hmc : c.length ≤ maxLen)
    (vd : Value) (d : List ByteArray) (hrd : RowAt w vd (d.map Value.string)) (hwd : ∀ s ∈ d, s.size ≤ maxLen) (hmd : d.length ≤ maxLen) (_ : World) :
    Calls Try.prog 8 #[va, vb, vc, vd] w fun e w' => e = .returned (.bool true) ∧ Below w.heap.size w w' := by
  by_cases ha : 4096 < a.length
  · obtain ⟨aa, ca, rfl⟩ := hra.len
    obtain ⟨ab, cb, rfl⟩ := hrb.len
    rw [List.length_map] at hra hrb ⊢
    rw [List.length_map]
    unfold maxLen at hma hmb
    have ha' : (4096 : Int) < a.length := by omega
    go_enter Try.func8, Try.ntmps8
    go_wp2_with fail
    refine (awake_any _).mono ?_
    rintro e w1 ⟨rfl, g1⟩
    go_wp2_with fail
    refine (awake_any _).mono ?_
    rintro e w2 ⟨rfl, g2⟩
    have G2 := grow_none g1 g2
    clear g1 g2
    go_wp2
    go_ret
    exact ⟨rfl, below_of_none G2⟩
  by_cases hb : 4096 < b.length
  · obtain ⟨aa, ca, rfl⟩ := hra.len
    obtain ⟨ab, cb, rfl⟩ := hrb.len
    rw [List.length_map] at hra hrb ⊢
    rw [List.length_map]
    unfold maxLen at hma hmb
    have ha' : decide ((4096 : Int) < a.length) = false := by simp; omega
    have hb' : (4096 : Int) < b.length := by omega
    go_enter Try.func8, Try.ntmps8
    go_wp2_with fail
    refine (awake_any _).mono ?_
    rintro e w1 ⟨rfl, g1⟩
    go_wp2_with fail
    refine (awake_any _).mono ?_
    rintro e w2 ⟨rfl, g2⟩
    have G2 := grow_none g1 g2
    clear g1 g2
    go_wp2
    go_ret
    exact ⟨rfl, below_of_none G2⟩
  cases hlc : longG c 0 with
  | true =>
    obtain ⟨aa, ca, rfl⟩ := hra.len
    obtain ⟨ab, cb, rfl⟩ := hrb.len
    rw [List.length_map] at hra hrb ⊢
    rw [List.length_map]
    have ha' : decide ((4096 : Int) < a.length) = false := by simp; omega
    have hb' : decide ((4096 : Int) < b.length) = false := by simp; omega
    have HMA := Lib.hid hma
    have HMB := Lib.hid hmb
    have HMC := Lib.hid hmc
    have HMD := Lib.hid hmd
    have HLC := Lib.hid hlc
    clear hma hmb hmc hmd hlc
    go_enter Try.func8, Try.ntmps8
    go_wp2_with fail
    refine (awake_any _).mono ?_
    rintro e w1 ⟨rfl, g1⟩
    go_wp2_with fail
    refine (long_any _ c hwc _ (hrc.kept g1) HMC.out).mono ?_
    rintro e w2 ⟨rfl, rfl⟩
    rw [HLC.out]
    go_wp2_with fail
    refine (awake_any _).mono ?_
    rintro e w3 ⟨rfl, g3⟩
    have G3 := grow_none g1 g3
    clear g1 g3
    go_wp2
    go_ret
    exact ⟨rfl, below_of_none G3⟩
  | false =>
    cases hld : longG d 0 with
    | true =>
      obtain ⟨aa, ca, rfl⟩ := hra.len
      obtain ⟨ab, cb, rfl⟩ := hrb.len
      rw [List.length_map] at hra hrb ⊢
      rw [List.length_map]
      have ha' : decide ((4096 : Int) < a.length) = false := by simp; omega
      have hb' : decide ((4096 : Int) < b.length) = false := by simp; omega
      have HMA := Lib.hid hma
      have HMB := Lib.hid hmb
      have HMC := Lib.hid hmc
      have HMD := Lib.hid hmd
      have HLC := Lib.hid hlc
      have HLD := Lib.hid hld
      clear hma hmb hmc hmd hlc hld
      go_enter Try.func8, Try.ntmps8
      go_wp2_with fail
      refine (awake_any _).mono ?_
      rintro e w1 ⟨rfl, g1⟩
      go_wp2_with fail
      refine (long_any _ c hwc _ (hrc.kept g1) HMC.out).mono ?_
      rintro e w2 ⟨rfl, rfl⟩
      rw [HLC.out]
      go_wp2_with fail
      refine (long_any _ d hwd _ (hrd.kept g1) HMD.out).mono ?_
      rintro e w2 ⟨rfl, rfl⟩
      rw [HLD.out]
      go_wp2_with fail
      refine (awake_any _).mono ?_
      rintro e w3 ⟨rfl, g3⟩
      have G3 := grow_none g1 g3
      clear g1 g3
      go_wp2
      go_ret
      exact ⟨rfl, below_of_none G3⟩
    | false => exact joins_core w va vb vc vd a b c d hra hrb hrc hrd hwa hwb hwc hwd hmc hmd (by omega) (by omega) hlc hld
end Go.Proofs.Ytpoffplnkmmmkaa
