/- Several texts in one: FrA FrB FrC. -/
import Derived.Test.YtphljjgjpkdpmaaGreatDoorK8
import Derived.Test.YtphljjgjpkdpmaaGreatDoorK7
import Derived.Test.YtphljjgjpkdpmaaGreatDoorK3
import Derived.Test.YtphljjgjpkdpmaaGreatDoorK5
/- Stage 4: the document's sum; the four bytes of a sum; a payload's frame by the document. -/
namespace Go.Proofs.YtphljjgjpkdpmaaGreatDoor
open Go.RowKit
set_option linter.unusedVariables false
set_option maxRecDepth 100000 in
set_option maxHeartbeats 1000000 in
theorem refMore_any (x : BitVec 32) (s : ByteArray) (w : World) (hs : s.size ≤ maxLen) :
    Calls Tryz.prog 102 #[.int .u32 x.toNat, .string s] w fun e w' => e = .returned (.int .u32 (more x s.data.toList).toNat) ∧ w = w' := by
  unfold maxLen at hs
  have hs' : (s.size : Int) ≤ 9223372036854775807 := by omega
  have bx := u32_lt x
  obtain ⟨nx, hnx⟩ : ∃ nx, nx = ~~~ x := ⟨_, rfl⟩
  have hnot := not_u32 x
  rw [← hnx] at hnot
  have HNX := Lib.hid hnx
  have HNT := Lib.hid hnot
  clear hnx hs hnot
  go_enter Tryz.func102, Tryz.ntmps102
  go_wp2
  go_loop [5, 6] (fun r i => ∃ k : Nat, k ≤ s.size ∧ i = .int .i64 k ∧ r = .int .u32 (takes nx (s.data.toList.take k)).toNat) (fun _ i => s.size - (intOf i).toNat)
  case atStart => exact ⟨0, Nat.zero_le _, rfl, by show Value.int .u32 _ = .int .u32 (nx.toNat : Int); rw [HNT.out]⟩
  case round =>
    obtain ⟨k, hk, rfl, rfl⟩ := hrel
    by_cases hlt : k < s.size
    · have HT : Hid (takes nx (s.data.toList.take (k + 1)) = takeB (takes nx (s.data.toList.take k)) s[k]) := by
        have hl : k < s.data.toList.length := by rw [Array.length_toList]; exact hlt
        show _ = _
        rw [List.take_succ_eq_append_getElem hl, takes, List.foldl_append, List.foldl_cons, List.foldl_nil, ← takes]
        rfl
      go_wp2_with fail
      refine (taken_any _ _ _).mono ?_
      rintro e w' ⟨rfl, rfl⟩
      go_wp2
      refine ⟨⟨k + 1, by omega, by go_num, by rw [HT.out]⟩, by simp [intOf]; omega⟩
    · obtain rfl : k = s.size := by omega
      have ht : s.data.toList.take s.size = s.data.toList := List.take_of_length_le (by rw [Array.length_toList]; exact Nat.le_refl _)
      rw [ht]
      obtain ⟨z, hz⟩ : ∃ z, z = takes nx s.data.toList := ⟨_, rfl⟩
      obtain ⟨nz, hnz⟩ : ∃ nz, nz = ~~~ z := ⟨_, rfl⟩
      have hnot2 := not_u32 z
      rw [← hnz] at hnot2
      rw [← hz]
      have HE : Hid (more x s.data.toList = nz) := by show _ = _; rw [hnz, hz, HNX.out]; rfl
      have HN2 := Lib.hid hnot2
      have bz := u32_lt z
      clear hz hnz ht hnot2
      go_wp2
      go_ret
      exact ⟨by rw [HE.out, HN2.out]; rfl, rfl⟩
theorem refSum_any (s : ByteArray) (w : World) (hs : s.size ≤ maxLen) :
    Calls Tryz.prog 87 #[.string s] w fun e w' => e = .returned (.int .u32 (more 0#32 s.data.toList).toNat) ∧ w = w' := by
  have h := refMore_any 0#32 s w hs
  have HH := Lib.hid h
  clear h
  go_enter Tryz.func87, Tryz.ntmps87
  go_wp2_with fail
  refine HH.out.mono ?_
  rintro e w' ⟨rfl, rfl⟩
  go_wp2
  go_ret
  exact ⟨rfl, rfl⟩
/-- The four bytes of a sum, the lowest first. -/
def sumB (x : Nat) : List UInt8 := [x.toUInt8, (x / 256).toUInt8, (x / 65536).toUInt8, (x / 16777216).toUInt8]
def crcN (p : ByteArray) : Nat := (more 0#32 p.data.toList).toNat
theorem sum_cells (x : Nat) (hx : (x : Int) ≤ 4294967295) : (sumB x).map c8 = [.int .u8 ((x : Int) % 256), .int .u8 ((x : Int) / 256 % 256), .int .u8 ((x : Int) / 65536 % 256), .int .u8 ((x : Int) / 16777216)] := by
  unfold sumB c8
  simp only [List.map_cons, List.map_nil, Nat.toUInt8_eq, UInt8.toNat_ofNat']
  have e : (x : Int) / 16777216 = ((x / 16777216 % 2 ^ 8 : Nat) : Int) := by omega
  rw [e]
  rfl
theorem sum_conv (x : Nat) (w : World) (hx : (x : Int) ≤ 4294967295) :
    (convert 50 9 (.slice (some ⟨w.heap.size, 0, none⟩) 4 4)).run Tryz.prog (w.alloc (.cells #[.int .u8 ((x : Int) % 256), .int .u8 ((x : Int) / 256 % 256), .int .u8 ((x : Int) / 65536 % 256), .int .u8 ((x : Int) / 16777216)] 5))
      = .ok (.string ⟨(sumB x).toArray⟩) (w.alloc (.cells #[.int .u8 ((x : Int) % 256), .int .u8 ((x : Int) / 256 % 256), .int .u8 ((x : Int) / 65536 % 256), .int .u8 ((x : Int) / 16777216)] 5)) := by
  have hb : Blk (w.alloc (.cells ((sumB x).map c8).toArray 5)) w.heap.size 5 ((sumB x).map c8) := Blk.new _ _ _
  have h := run_str_buf (P := Tryz.prog) _ Tryz.underlying50 Tryz.underlying5 Tryz.underlying9 (hb.own 4 rfl (by unfold maxLen; omega))
  rw [sum_cells x hx] at h
  exact h
set_option maxRecDepth 100000 in
set_option maxHeartbeats 1000000 in
theorem sumBytes_any (p : ByteArray) (w : World) (hm : Mv w) (hp : p.size ≤ maxLen) :
    Calls Tryz.prog 97 #[.string p] w fun e w' => e = .returned (.string ⟨(sumB (crcN p)).toArray⟩) ∧ w.grownBy w' none := by
  have gA := World.grownBy_alloc w (.cells #[.string p] 9) none
  have rA := RowAt.lit w ([p].map Value.string) 9 1 1 rfl
  simp only [List.map_cons, List.map_nil] at rA
  have hpm : ∀ s ∈ [p], s.size ≤ maxLen := by
    intro s hs; rw [List.mem_singleton] at hs; rw [hs]; exact hp
  have HPM := Lib.hid hpm
  clear hpm hp
  go_enter Tryz.func97, Tryz.ntmps97
  go_wp2_with fail
  refine (Sum_any _ [p] _ (hm.kept gA) rA HPM.out (by show 1 ≤ 2^63-1; omega)).mono ?_
  rintro e w2 ⟨rfl, rfl⟩
  have e1 : (more 0#32 (allB [p])).toNat = crcN p := by unfold crcN allB; simp
  rw [e1]
  clear rA
  have hb : ((crcN p : Nat) : Int) ≤ 4294967295 := by
    have := (more 0#32 p.data.toList).isLt
    unfold crcN; omega
  obtain ⟨x, hx⟩ : ∃ x, x = crcN p := ⟨_, rfl⟩
  rw [← hx] at hb ⊢
  have HX := Lib.hid hx
  generalize w.alloc (.cells #[.string p] 9) = w1 at gA ⊢
  have hconv := sum_conv x w1 hb
  have gB := World.grownBy_alloc w1 (.cells #[.int .u8 ((x : Int) % 256), .int .u8 ((x : Int) / 256 % 256), .int .u8 ((x : Int) / 65536 % 256), .int .u8 ((x : Int) / 16777216)] 5) none
  clear hx e1
  go_wp2
  go_ret
  exact ⟨by rw [← HX.out]; rfl, grow_none gA gB⟩
end Go.Proofs.YtphljjgjpkdpmaaGreatDoor
/- Stage 4: a payload's frame, by the document (One). -/
namespace Go.Proofs.YtphljjgjpkdpmaaGreatDoor
open Go.RowKit
set_option linter.unusedVariables false
/-- A payload's frame. -/
def frB (p : ByteArray) : List UInt8 := numB (p.size : Int) ++ (sumB (crcN p) ++ p.data.toList)
theorem refNum_rel {w0 : World} (n : Int) (w : World) {A : ByteArray} (hA : A = ⟨(numB n).toArray⟩) (hn : -9223372036854775808 ≤ n ∧ n ≤ 9223372036854775807) (hI : w0.grownBy w none) :
    Calls Tryz.prog 61 #[.int .i64 n] w fun e w' => ∃ u, e = .returned u ∧ u = .string A ∧ w0.grownBy w' none ∧ w.grownBy w' none :=
  (refNum_any n w hn).mono fun e w' ⟨he, g⟩ => ⟨_, he, by rw [hA], grow_none hI g, g⟩
/-- The four bytes lie there. -/
def SumAt (x : Nat) (v : Value) (w : World) : Prop := ∃ g, v = .slice (some ⟨g, 0, none⟩) 4 4 ∧ Blk w g 5 ((sumB x).map c8)
theorem SumAt.kept {x : Nat} {v : Value} {w w' : World} (h : SumAt x v w) (g : w.grownBy w' none) : SumAt x v w' := by
  obtain ⟨b, rfl, hb⟩ := h
  exact ⟨b, rfl, hb.keep g⟩
theorem SumAt.new (x : Nat) (w : World) (hx : (x : Int) ≤ 4294967295) : SumAt x (.slice (some ⟨w.heap.size, 0, none⟩) 4 4) (w.alloc (.cells #[.int .u8 ((x : Int) % 256), .int .u8 ((x : Int) / 256 % 256), .int .u8 ((x : Int) / 65536 % 256), .int .u8 ((x : Int) / 16777216)] 5)) := by
  refine ⟨_, rfl, ?_⟩
  rw [sum_cells x hx]
  exact Blk.new _ _ _
theorem SumAt.newW (x : Nat) (w : World) (hx : (x : Int) ≤ 4294967295) : SumAt x (.slice (some ⟨w.heap.size, 0, none⟩) 4 4) (w.alloc (.cells #[.int .u8 (IntKind.u8.wrap (x : Int)), .int .u8 (IntKind.u8.wrap ((x : Int) / 256)), .int .u8 (IntKind.u8.wrap ((x : Int) / 65536)), .int .u8 (IntKind.u8.wrap ((x : Int) / 16777216))] 5)) := by
  have h := SumAt.new x w hx
  have e1 : IntKind.u8.wrap (x : Int) = (x : Int) % 256 := by rw [IntKind.wrap_u8]
  have e2 : IntKind.u8.wrap ((x : Int) / 256) = (x : Int) / 256 % 256 := by rw [IntKind.wrap_u8]
  have e3 : IntKind.u8.wrap ((x : Int) / 65536) = (x : Int) / 65536 % 256 := by rw [IntKind.wrap_u8]
  have e4 : IntKind.u8.wrap ((x : Int) / 16777216) = (x : Int) / 16777216 := by rw [IntKind.wrap_u8]; omega
  rw [e1, e2, e3, e4]
  exact h
theorem SumAt.conv {x : Nat} {v : Value} {w : World} {B : ByteArray} (hB : B = ⟨(sumB x).toArray⟩) (h : SumAt x v w) : (convert 50 9 v).run Tryz.prog w = .ok (.string B) w := by
  obtain ⟨b, rfl, hb⟩ := h
  rw [hB]
  exact run_str_buf (P := Tryz.prog) _ Tryz.underlying50 Tryz.underlying5 Tryz.underlying9 (hb.own 4 rfl (by unfold maxLen; omega))
set_option maxRecDepth 100000 in
set_option maxHeartbeats 1000000 in
theorem One_any (p : ByteArray) (w : World) (hp : p.size ≤ 1000000000) :
    Calls Tryz.prog 58 #[.string p] w fun e w' => e = .returned (.string ⟨(frB p).toArray⟩) ∧ w.grownBy w' none := by
  have hpi : (p.size : Int) ≤ 1000000000 := by omega
  have hmx : p.size ≤ maxLen := by unfold maxLen; omega
  have hnl := numB_len (n := (p.size : Int)) (by omega)
  have HPI := Lib.hid hpi
  clear hp
  go_enter Tryz.func58, Tryz.ntmps58
  go_wp2_with fail
  refine (refSum_any p _ hmx).mono ?_
  rintro e w2 ⟨rfl, rfl⟩
  have hb : (((more 0#32 p.data.toList).toNat : Nat) : Int) ≤ 4294967295 := by
    have := (more 0#32 p.data.toList).isLt
    omega
  obtain ⟨x, hx⟩ : ∃ x, x = (more 0#32 p.data.toList).toNat := ⟨_, rfl⟩
  rw [← hx] at hb ⊢
  have HX : Hid (x = crcN p) := hx
  clear hx hmx
  obtain ⟨nb, hnb⟩ : ∃ nb, nb = numB (p.size : Int) := ⟨_, rfl⟩
  rw [← hnb] at hnl
  have HNB := Lib.hid hnb
  clear hnb
  have hs1 : (⟨nb.toArray⟩ : ByteArray).size = nb.length := by show nb.toArray.size = _; simp
  have hs2 : (⟨(sumB x).toArray⟩ : ByteArray).size = 4 := rfl
  have hbs : ((⟨nb.toArray⟩ : ByteArray).size : Int) ≤ 8388608 := by rw [hs1]; omega
  have hb2 : ((⟨(sumB x).toArray⟩ : ByteArray).size : Int) ≤ 8388608 := by rw [hs2]; omega
  obtain ⟨A, hA⟩ : ∃ A : ByteArray, A = ⟨nb.toArray⟩ := ⟨_, rfl⟩
  have HA0 : Hid (A = ⟨(numB (p.size : Int)).toArray⟩) := by show _ = _; rw [hA, HNB.out]
  obtain ⟨B, hB⟩ : ∃ B : ByteArray, B = ⟨(sumB x).toArray⟩ := ⟨_, rfl⟩
  have hz1 : A.size + B.size ≤ 14 := by rw [hA, hB, hs1, hs2]; omega
  have hz2 : ¬ (9223372036854775807 < A.size + B.size) := by omega
  have hz3 : ¬ (9223372036854775807 < A.size + B.size + p.size) := by omega
  have hz4 : ¬ (9223372036854775807 < (A ++ B).size + p.size) := by rw [ByteArray.size_append]; omega
  have HA := Lib.hid hA
  have HB := Lib.hid hB
  clear hs1 hs2 hbs hb2 hA hB
  go_wp2
  refine wp_region_rel (fun W => w.grownBy W none) (fun W W' => W.grownBy W' none) (by kernel_rfl) (by kernel_rfl) (fun W => grow_refl W none) (grow_drawn (grow_refl _ _)) ?_
  repeat (refine wpRel_det ?_; apply Exists.intro; refine ⟨fun W hI => ?_, ?_⟩; focus (go_simp; first | exact ⟨rfl, grow_refl _ _⟩ | exact refNum_rel _ _ HA0.out (by have := HPI.out; omega) hI))
  refine wpRel_step (fun v W => SumAt x v W) (fun v W W' hr h => h.kept hr) (fun W hI => ?_) ?_
  focus (go_simp; exact ⟨SumAt.newW x W hb, grow_none hI (World.grownBy_alloc _ _ _), World.grownBy_alloc _ _ _⟩)
  refine wpRel_det ?_; apply Exists.intro; refine ⟨fun W hI => ?_, ?_⟩
  focus (go_simp; intro v hv; have hc := hv.conv HB.out; obtain ⟨b, rfl, _⟩ := hv; go_simp; exact ⟨rfl, grow_refl _ _⟩)
  repeat (refine wpRel_det ?_; apply Exists.intro; refine ⟨fun W hI => ?_, ?_⟩; focus (go_simp; first | exact ⟨rfl, grow_refl _ _⟩))
  refine wpRel_nil ?_
  intro w' hI
  go_simp
  intro v1 _
  go_wp2
  go_ret
  have hfin : A ++ B ++ p = ⟨(frB p).toArray⟩ := by
    have hp' : p = ⟨p.data.toList.toArray⟩ := by apply ByteArray.ext; simp
    unfold frB
    rw [← HX.out, ← HNB.out, HA.out, HB.out, app_lists, ← List.append_assoc]
    conv => lhs; rw [hp']
    rw [app_lists]
  exact ⟨congrArg (fun z => Ending.returned (.string z)) hfin, hI⟩
end Go.Proofs.YtphljjgjpkdpmaaGreatDoor
/- Stage 4: Seal, by the document; what the statements ask first: many. -/
namespace Go.Proofs.YtphljjgjpkdpmaaGreatDoor
open Go.RowKit
set_option linter.unusedVariables false
theorem Tryz.info04_uint8 : (Tryz.prog.info? 5).map (fun i => (i.zero, i.size, i.bytes)) = some (some (.int .u8 0), 1, 1) := by kernel_rfl
def framesB (l : List ByteArray) : List UInt8 := l.flatMap frB
theorem frames_snoc (l : List ByteArray) (k : Nat) (hk : k < l.length) : framesB (l.take (k + 1)) = framesB (l.take k) ++ frB l[k] := by
  unfold framesB
  rw [List.take_succ_eq_append_getElem hk, List.flatMap_append]
  simp only [List.flatMap_cons, List.flatMap_nil, List.append_nil]
theorem frB_len (p : ByteArray) (hp : p.size ≤ 1048576) : (frB p).length ≤ 1048590 := by
  have h := numB_len (n := (p.size : Int)) (by omega)
  have e : p.data.toList.length = p.size := by rw [Array.length_toList]; rfl
  have e2 : (sumB (crcN p)).length = 4 := rfl
  unfold frB
  rw [List.length_append, List.length_append, e, e2]
  omega
theorem frames_len (l : List ByteArray) (hs : ∀ s ∈ l, s.size ≤ 1048576) : ∀ k, k ≤ l.length → (framesB (l.take k)).length ≤ 1048590 * k
  | 0, _ => by simp [framesB]
  | k + 1, hk => by
    rw [frames_snoc l k (by omega), List.length_append]
    have h1 := frames_len l hs k (by omega)
    have h2 := frB_len l[k] (hs _ (List.getElem_mem (by omega)))
    omega
set_option maxRecDepth 100000 in
set_option maxHeartbeats 1000000 in
theorem refSeal_any (v : Value) (l : List ByteArray) (w : World) (hr : RowAt w v (l.map Value.string)) (hl : l.length ≤ 8192) (hs : ∀ s ∈ l, s.size ≤ 1048576) :
    Calls Tryz.prog 57 #[v] w fun e w' => e = .returned (.tuple #[.string ⟨(framesB l).toArray⟩, .int .i64 0]) ∧ w.grownBy w' none := by
  obtain ⟨i0, hi, hz0, hz1, hz2⟩ := info_parts Tryz.info04_uint8
  obtain ⟨a, c, rfl⟩ := hr.len
  rw [List.length_map] at hr ⊢
  have hli : (l.length : Int) ≤ 8192 := by omega
  have HS := Lib.hid hs
  clear hs
  go_enter Tryz.func57, Tryz.ntmps57
  go_wp2
  have r1 := hr.kept (World.grownBy_alloc w (.cells #[] 5) none)
  have o1 := own_empty w 5 1
  have g1 := World.grownBy_alloc w (.cells #[] 5) none
  obtain ⟨w1, hw1⟩ : ∃ w1, w1 = w.alloc (.cells #[] 5) := ⟨_, rfl⟩
  rw [← hw1] at r1 o1 g1 ⊢
  clear hw1
  go_loop [5] (fun i => ∃ k : Nat, k ≤ l.length ∧ i = .int .i64 k) (fun i => l.length - (intOf i).toNat)
  case atStart => exact ⟨0, Nat.zero_le _, rfl⟩
  case round =>
    obtain ⟨k, hk, rfl⟩ := hrel
    by_cases hlt : k < l.length
    · obtain ⟨bb, off, rfl, hcell⟩ := row_str r1 hlt
      have hsz := HS.out l[k] (List.getElem_mem hlt)
      have h1 : decide ((1048576 : Int) < l[k].size) = false := decide_eq_false (by omega)
      have hki : (k : Int) < l.length := by omega
      go_wp2
      go_round
      case rel => exact ⟨k + 1, by omega, by go_num⟩
      case measure => simp [intOf]; omega
    · obtain rfl : k = l.length := by omega
      go_wp2
      go_loopw [4, 6] (fun out i wr => ∃ k : Nat, k ≤ l.length ∧ i = .int .i64 k ∧ wr.ownsRow 0 5 1 out (framesB (l.take k)).length ((framesB (l.take k)).map c8) ∧ w.grownBy wr none ∧ NewBlk w out) (fun _ i _ => l.length - (intOf i).toNat)
      case atStart => exact ⟨0, Nat.zero_le _, rfl, by simpa [framesB] using o1, g1, newblk_at _ _ _ _ (Nat.le_refl _) _⟩
      case round =>
        obtain ⟨k, hk, rfl, ho, hg, hn⟩ := hrel
        by_cases hlt : k < l.length
        · obtain ⟨bb, off, rfl, hcell⟩ := row_str (hr.kept hg) hlt
          have hsz := HS.out l[k] (List.getElem_mem hlt)
          have hfl := frB_len l[k] hsz
          have hle := frames_len l HS.out k hk
          have HT := Lib.hid (frames_snoc l k hlt)
          have hki : (k : Int) < l.length := by omega
          go_wp2_with fail
          refine (One_any _ _ (by omega)).mono ?_
          rintro e w2 ⟨rfl, g2⟩
          have o2 := own_keep ho g2
          have hfs : (⟨(frB l[k]).toArray⟩ : ByteArray).size = (frB l[k]).length := by show (frB l[k]).toArray.size = _; simp
          have HFS := Lib.hid hfs
          clear hfs
          go_wp2_with (at_builtin; refine wpList_append_str _ rfl _ _ 50 9 rfl 5 i0 Tryz.underlying50 Tryz.underlying9 hi hz0 hz1 hz2 _ _ _ rfl o2 _ rfl (by rw [HFS.out]; show _ ≤ 2^63-1; omega) (by rw [HFS.out]; omega) ?_)
          intro v3 w3 ho3 hg3 hm3
          go_wp2
          go_roundw
          case rel =>
            refine ⟨k + 1, by omega, by go_num, ?_, grow_newblk (grow_none hg g2) hn hg3, hn.moved (Nat.le_trans hg.size g2.size) hm3⟩
            rw [HT.out, List.length_append, List.map_append]
            exact ho3
          case measure => simp [intOf]; omega
        · obtain rfl : k = l.length := by omega
          have hT : l.take l.length = l := List.take_length
          rw [hT] at ho
          have hconv := run_str_buf (P := Tryz.prog) wr Tryz.underlying50 Tryz.underlying5 Tryz.underlying9 ho
          go_wp2
          go_ret2
          exact ⟨rfl, hg⟩
end Go.Proofs.YtphljjgjpkdpmaaGreatDoor
