/- The law CrcThree: its walk. -/
import Derived.Test.YtpoffplnkmmmkaaDoorCrSums
import Derived.Test.YtpoffplnkmmmkaaDoorCrM
import Derived.Test.YtpoffplnkmmmkaaDoorB2
import Derived.Test.YtpoffplnkmmmkaaDoorRel
import Derived.RegionTactic
import Derived.BigRegion
import Derived.Outline
import Derived.Deep.CutBlock
namespace Go.Proofs.YtpoffplnkmmmkaaDoor
open Go.RowKit
set_option linter.unusedVariables false
theorem Tryd.info5 : (Tryd.prog.info? 5).map (fun i => (i.zero, i.size, i.bytes)) = some (some (.int .u8 0), 1, 1) := by kernel_rfl
theorem xor3_u8 (x y z : UInt8) : bits .xor .u8 (bits .xor .u8 (x.toNat : Int) (y.toNat : Int)) (z.toNat : Int) = ((x ^^^ y ^^^ z).toNat : Int) := by
  have hx := x.toNat_lt
  have hy := y.toNat_lt
  have hz := z.toNat_lt
  rw [u8_xor_nat _ _ hx hy, ← UInt8.toNat_xor, u8_xor_nat _ _ (x ^^^ y).toNat_lt hz, ← UInt8.toNat_xor]
/-- What stands in the new bytes behind k rounds. -/
def ThreeAt (a b c : ByteArray) (n k g : Nat) (w : World) : Prop :=
  ∃ l : List UInt8, l.length = n ∧ Blk w g 5 (l.map c8) ∧ ∀ j, j < k → l.getD j 0 = a.data.toList.getD j 0 ^^^ b.data.toList.getD j 0 ^^^ c.data.toList.getD j 0
theorem ThreeAt.step {a b c : ByteArray} {n k g : Nat} {w w' : World} {l : List UInt8} (hl : l.length = n) (hk : k < n) (hb : Blk w' g 5 (l.map c8)) (ha : k < a.size) (hb2 : k < b.size) (hc : k < c.size)
    (h : ∀ j, j < k → l.getD j 0 = a.data.toList.getD j 0 ^^^ b.data.toList.getD j 0 ^^^ c.data.toList.getD j 0) :
    ThreeAt a b c n (k + 1) g (w'.setCell ⟨g, k, none⟩ (.int .u8 ((a[k].toNat ^^^ b[k].toNat ^^^ c[k].toNat : Nat) : Int))).drew := by
  rw [← UInt8.toNat_xor, ← UInt8.toNat_xor]
  refine ⟨l.set k (a[k] ^^^ b[k] ^^^ c[k]), by rw [List.length_set, hl], ?_, fun j hj => ?_⟩
  · rw [← set_c8 l k _ _ rfl]; exact hb.set_ k _
  · by_cases e : j = k
    · subst e
      rw [byte_get _ _ ha, byte_get _ _ hb2, byte_get _ _ hc, List.getD, List.getElem?_set_self (by omega)]
      rfl
    · rw [List.getD, List.getElem?_set_ne (by omega)]
      exact h j (by omega)
theorem take_getD (s : ByteArray) (n j : Nat) (hj : j < n) : (s.extract 0 n).data.toList.getD j 0 = s.data.toList.getD j 0 := by
  have e : (s.extract 0 n).data.toList = s.data.toList.take n := by simp
  rw [e, List.getD, List.getElem?_take, if_pos hj]
  rfl
def ThreeMin (a b c : Nat) (v : Value) : Prop := ∃ n : Nat, v = .int .i64 n ∧ n ≤ a ∧ n ≤ b ∧ n ≤ c
set_option maxRecDepth 100000 in
set_option maxHeartbeats 1000000 in
theorem law_CrcThree (a : ByteArray) (ha : a.size ≤ maxLen) (b : ByteArray) (hb : b.size ≤ maxLen) (c : ByteArray) (hc : c.size ≤ maxLen) {w : World} (hm : Mv w) :
    Calls Tryd.prog 6 #[.string a, .string b, .string c] w fun e w' => e = .returned (.bool true) ∧ Below w.heap.size w w' := by
  unfold maxLen at ha hb hc
  have ha' : (a.size : Int) ≤ 9223372036854775807 := by omega
  have hb' : (b.size : Int) ≤ 9223372036854775807 := by omega
  have hc' : (c.size : Int) ≤ 9223372036854775807 := by omega
  clear ha hb hc
  go_enter Tryd.func6, Tryd.ntmps6
  go_upto_region 1 with (fail)
  go_cut [7] (fun v wc => ThreeMin a.size b.size c.size v ∧ wc = w)
  case first =>
    go_wp2_with fail
    all_goals
      go_meet
      exact ⟨⟨_, rfl, by omega, by omega, by omega⟩, rfl⟩
  case rest =>
    obtain ⟨⟨n, rfl, hna, hnb, hnc⟩, rfl⟩ := hcut
    have hn' : (n : Int) ≤ 9223372036854775807 := by omega
    go_wp2_with fail
    refine (awake_any _ hm).mono ?_
    rintro e w2 ⟨rfl, g2⟩
    have m2 := hm.kept g2
    by_cases h4 : 4096 < n
    · have h4' : decide ((4096 : Int) < n) = true := by simp; omega
      go_wp2_with fail
      refine (awake_any _ m2).mono ?_
      rintro e w3 ⟨rfl, g3⟩
      have G3 := grow_none g2 g3
      clear g2 g3
      go_wp2
      go_ret
      exact ⟨rfl, below_of_none G3⟩
    · have h4' : decide ((4096 : Int) < n) = false := by simp; omega
      have h4i : (n : Int) ≤ 4096 := by omega
      obtain ⟨i0, hi, hz0, hz1, hz2⟩ := info_parts Tryd.info5
      have hmk := fun W => run_make_one (P := Tryd.prog) 34 5 i0 (.int .u8 0) 1 Tryd.underlying34 hi hz0 rfl hz1 hz2 .i64 .i64 n n (Nat.le_refl _) (by omega) (by omega) W
      have t0 : ThreeAt a b c n 0 w2.heap.size (w2.alloc (.cells (List.replicate n (Value.int .u8 0)).toArray 5)) := by
        refine ⟨List.replicate n 0, List.length_replicate, ?_, fun j hj => by omega⟩
        rw [← replicate_c8]
        exact Blk.new _ _ _
      have gt0 := grow_none g2 (World.grownBy_alloc w2 (.cells (List.replicate n (Value.int .u8 0)).toArray 5) none)
      obtain ⟨g, hg⟩ : ∃ g, g = w2.heap.size := ⟨_, rfl⟩
      have hg0 : wc.heap.size ≤ g := by rw [hg]; exact g2.size
      rw [← hg] at t0
      have HG := Lib.hid hg
      have hmk' : ∀ W : World, (Instr.makeSlice 34 (.int .i64 (n : Int)) (.int .i64 (n : Int))).run Tryd.prog W = .ok (.slice (some ⟨W.heap.size, 0, none⟩) n n) (W.alloc (.cells (List.replicate n (Value.int .u8 0)).toArray 5)) := hmk
      clear hg g2 h4 hmk
      go_wp2
      rw [← HG.out]
      go_loopw [28] (fun i wr => ∃ k : Nat, i = .int .i64 k ∧ k ≤ n ∧ ThreeAt a b c n k g wr ∧ wc.grownBy wr none) (fun i _ => n - (intOf i).toNat)
      case atStart => exact ⟨0, rfl, Nat.zero_le _, t0, gt0⟩
      case round =>
        obtain ⟨k, rfl, hk, hth, hgr⟩ := hrel
        clear t0 gt0
        by_cases hlt : k < n
        · obtain ⟨l, hl, hbk, hall⟩ := hth
          have HALL := Lib.hid hall
          have hx := xor3_u8 a[k] b[k] c[k]
          have hcell := hbk.cell k (by rw [List.length_map, hl]; exact hlt)
          have hfr := hbk.frozen k
          have hlti : (k : Int) < n := by omega
          have i1 : (k : Int) < a.size := by omega
          have i2 : (k : Int) < b.size := by omega
          have i3 : (k : Int) < c.size := by omega
          clear hall
          go_wp2
          go_region
          all_goals
            go_wp2
            go_roundw
            case rel => exact ⟨k + 1, by go_num, by omega, ThreeAt.step (w := wr) hl hlt hbk (by omega) (by omega) (by omega) HALL.out, grow_drawn (grow_new hgr hg0 (grow_set _ _ _))⟩
            case measure => simp [intOf]; omega
        · obtain rfl : n = k := by omega
          obtain ⟨l, hl, hbk, hall⟩ := hth
          have m5 : Mv wr := hm.kept hgr
          go_wp2_with fail
          have hn0 : (0 : Int) ≤ n := by omega
          have i1 : (n : Int) ≤ a.size := by omega
          have i2 : (n : Int) ≤ b.size := by omega
          have i3 : (n : Int) ≤ c.size := by omega
          have HC : Hid (∀ W : World, wr.grownBy W none → (convert 34 9 (.slice (some ⟨g, 0, none⟩) n n)).run Tryd.prog W = .ok (.string ⟨l.toArray⟩) W) := by
            intro W hW
            exact run_str_buf W Tryd.underlying34 Tryd.underlying5 Tryd.underlying9 ((hbk.keep hW).own n (by rw [List.length_map, hl]) (by show n ≤ 2^63-1; omega))
          have hcv := HC.out
          have hsz : ∀ s : ByteArray, s.size ≤ 4096 → ∀ t ∈ [s], t.size ≤ maxLen := by
            intro s hs t ht
            rw [List.mem_singleton] at ht
            rw [ht]; show _ ≤ 2^63-1; omega
          have HSZ := Lib.hid hsz
          have hone : ∀ s : ByteArray, [s].length ≤ maxLen := fun s => by show 1 ≤ 2^63-1; omega
          have HONE := Lib.hid hone
          have sum_one : ∀ (s : ByteArray) (v : Value) (w : World) (A : BitVec 32), A = more 0#32 s.data.toList → s.size ≤ 4096 → wr.grownBy w none → RowAt w v [Value.string s] →
              Calls Tryd.prog 9 #[v] w fun e w' => ∃ u, e = .returned u ∧ u = .int .u32 A.toNat ∧ wr.grownBy w' none ∧ w.grownBy w' none := by
            intro s v w A hA hs hI hr
            refine (Sum_any v [s] w (m5.kept hI) hr (HSZ.out s hs) (HONE.out s)).mono ?_
            rintro e w' ⟨rfl, rfl⟩
            refine ⟨_, rfl, ?_, hI, grow_refl _ _⟩
            rw [show allB [s] = s.data.toList by simp [allB], ← hA]
          obtain ⟨D, hD⟩ : ∃ D, D = more 0#32 (⟨l.toArray⟩ : ByteArray).data.toList := ⟨_, rfl⟩
          obtain ⟨A, hA⟩ : ∃ A, A = more 0#32 (a.extract 0 n).data.toList := ⟨_, rfl⟩
          obtain ⟨B, hB⟩ : ∃ B, B = more 0#32 (b.extract 0 n).data.toList := ⟨_, rfl⟩
          obtain ⟨C, hC⟩ : ∃ C, C = more 0#32 (c.extract 0 n).data.toList := ⟨_, rfl⟩
          have hfin : bits .xor .u32 (bits .xor .u32 (A.toNat : Int) (B.toNat : Int)) (C.toNat : Int) = (D.toNat : Int) := by
            rw [xor_u32, xor_u32, hA, hB, hC, hD]
            have := more_three (a.extract 0 n).data.toList (b.extract 0 n).data.toList (c.extract 0 n).data.toList l n (by rw [len_list, ByteArray.size_extract]; omega) (by rw [len_list, ByteArray.size_extract]; omega) (by rw [len_list, ByteArray.size_extract]; omega) hl
              (fun j hj => by rw [hall j hj, take_getD a n j hj, take_getD b n j hj, take_getD c n j hj])
            rw [← this]
          have hD' := Lib.hid hD
          have hA' := Lib.hid hA
          have hB' := Lib.hid hB
          have hC' := Lib.hid hC
          have bA := u32_lt A
          have bB := u32_lt B
          have bC := u32_lt C
          have SUM := Lib.hid sum_one
          have hld : l.toArray.size ≤ 4096 := by rw [List.size_toArray]; omega
          have l1 : (a.extract 0 n).size ≤ 4096 := by rw [ByteArray.size_extract]; omega
          have l2 : (b.extract 0 n).size ≤ 4096 := by rw [ByteArray.size_extract]; omega
          have l3 : (c.extract 0 n).size ≤ 4096 := by rw [ByteArray.size_extract]; omega
          have L0 := Lib.hid hld
          have L1 := Lib.hid l1
          have L2 := Lib.hid l2
          have L3 := Lib.hid l3
          clear hsz hone hall hld l1 l2 l3 HC sum_one hD hA hB hC
          refine wp_region_rel (fun w => wr.grownBy w none) (fun w w' => w.grownBy w' none) (by kernel_rfl) (by kernel_rfl) (fun w => grow_refl w none) (grow_drawn (grow_refl _ _)) ?_
          repeat (refine wpRel_det ?_; apply Exists.intro; refine ⟨fun w hI => ?_, ?_⟩; focus (go_simp; exact ⟨rfl, grow_refl _ _⟩))
          refine wpRel_step (fun v w => RowAt w v [Value.string ⟨l.toArray⟩]) (fun v w w' hr h => h.kept hr) (fun w hI => ?_) ?_
          · go_simp
            exact ⟨RowAt.lit w [Value.string ⟨l.toArray⟩] _ _ _ rfl, grow_none hI (World.grownBy_alloc _ _ _), World.grownBy_alloc _ _ _⟩
          (refine wpRel_det ?_; apply Exists.intro; refine ⟨fun w hI => ?_, ?_⟩; focus (go_simp; intro v hv; exact SUM.out _ _ _ _ hD'.out L0.out hI hv))
          repeat (refine wpRel_det ?_; apply Exists.intro; refine ⟨fun w hI => ?_, ?_⟩; focus (go_simp; exact ⟨rfl, grow_refl _ _⟩))
          refine wpRel_step (fun v w => RowAt w v [Value.string (a.extract 0 n)]) (fun v w w' hr h => h.kept hr) (fun w hI => ?_) ?_
          · go_simp
            exact ⟨RowAt.lit w [Value.string (a.extract 0 n)] _ _ _ rfl, grow_none hI (World.grownBy_alloc _ _ _), World.grownBy_alloc _ _ _⟩
          (refine wpRel_det ?_; apply Exists.intro; refine ⟨fun w hI => ?_, ?_⟩; focus (go_simp; intro v hv; exact SUM.out _ _ _ _ hA'.out L1.out hI hv))
          repeat (refine wpRel_det ?_; apply Exists.intro; refine ⟨fun w hI => ?_, ?_⟩; focus (go_simp; exact ⟨rfl, grow_refl _ _⟩))
          refine wpRel_step (fun v w => RowAt w v [Value.string (b.extract 0 n)]) (fun v w w' hr h => h.kept hr) (fun w hI => ?_) ?_
          · go_simp
            exact ⟨RowAt.lit w [Value.string (b.extract 0 n)] _ _ _ rfl, grow_none hI (World.grownBy_alloc _ _ _), World.grownBy_alloc _ _ _⟩
          (refine wpRel_det ?_; apply Exists.intro; refine ⟨fun w hI => ?_, ?_⟩; focus (go_simp; intro v hv; exact SUM.out _ _ _ _ hB'.out L2.out hI hv))
          repeat (refine wpRel_det ?_; apply Exists.intro; refine ⟨fun w hI => ?_, ?_⟩; focus (go_simp; exact ⟨rfl, grow_refl _ _⟩))
          refine wpRel_step (fun v w => RowAt w v [Value.string (c.extract 0 n)]) (fun v w w' hr h => h.kept hr) (fun w hI => ?_) ?_
          · go_simp
            exact ⟨RowAt.lit w [Value.string (c.extract 0 n)] _ _ _ rfl, grow_none hI (World.grownBy_alloc _ _ _), World.grownBy_alloc _ _ _⟩
          (refine wpRel_det ?_; apply Exists.intro; refine ⟨fun w hI => ?_, ?_⟩; focus (go_simp; intro v hv; exact SUM.out _ _ _ _ hC'.out L3.out hI hv))
          repeat (refine wpRel_det ?_; apply Exists.intro; refine ⟨fun w hI => ?_, ?_⟩; focus (go_simp; exact ⟨rfl, grow_refl _ _⟩))
          refine wpRel_nil ?_
          intro w' hI
          go_simp
          intro v1 _ v2 _ v3 _ v4 _
          go_wp2
          go_ret
          exact ⟨rfl, below_of_none (grow_none hgr hI)⟩
end Go.Proofs.YtpoffplnkmmmkaaDoor
