/- Stage 4: a payload's frame, by the document (One). -/
import Derived.Test.YtljhghlginachaaDoorFrA
import Derived.Test.YtljhghlginachaaDoorRelT
namespace Go.Proofs.YtljhghlginachaaDoor
open Go.RowKit
set_option linter.unusedVariables false
/-- A payload's frame. -/
def frB (p : ByteArray) : List UInt8 := numB (p.size : Int) ++ (sumB (crcN p) ++ p.data.toList)
theorem refNum_rel {w0 : World} (n : Int) (w : World) {A : ByteArray} (hA : A = ⟨(numB n).toArray⟩) (hn : -9223372036854775808 ≤ n ∧ n ≤ 9223372036854775807) (hI : w0.grownBy w none) :
    Calls Tryd.prog 32 #[.int .i64 n] w fun e w' => ∃ u, e = .returned u ∧ u = .string A ∧ w0.grownBy w' none ∧ w.grownBy w' none :=
  (refNum_any n w hn).mono fun e w' ⟨he, g⟩ => ⟨_, he, by rw [hA], grow_none hI g, g⟩
/-- The four bytes lie there. -/
def SumAt (x : Nat) (v : Value) (w : World) : Prop := ∃ g, v = .slice (some ⟨g, 0, none⟩) 4 4 ∧ Blk w g 5 ((sumB x).map c8)
theorem SumAt.kept {x : Nat} {v : Value} {w w' : World} (h : SumAt x v w) (g : w.grownBy w' none) : SumAt x v w' := by
  obtain ⟨b, rfl, hb⟩ := h
  exact ⟨b, rfl, hb.keep g⟩
theorem SumAt.new (x : Nat) (w : World) (hx : (x : Int) ≤ 4294967295) : SumAt x (.slice (some ⟨w.heap.size, 0, none⟩) 4 4) (w.alloc (.cells #[.int .u8 ((x : Int) % 256), .int .u8 ((x : Int) / 256 % 256), .int .u8 ((x : Int) / 65536 % 256), .int .u8 ((x : Int) / 16777216)] 5)) := by
  refine ⟨_, rfl, ?_⟩
  rw [sum_cells x hx]
  exact Blk.new _ _ _
theorem SumAt.newW (x : Nat) (w : World) (hx : (x : Int) ≤ 4294967295) : SumAt x (.slice (some ⟨w.heap.size, 0, none⟩) 4 4) (w.alloc (.cells #[.int .u8 (IntKind.u8.wrap (x : Int)), .int .u8 (IntKind.u8.wrap ((x : Int) / 256)), .int .u8 (IntKind.u8.wrap ((x : Int) / 65536)), .int .u8 (IntKind.u8.wrap ((x : Int) / 16777216))] 5)) := by
  have h := SumAt.new x w hx
  have e1 : IntKind.u8.wrap (x : Int) = (x : Int) % 256 := by rw [IntKind.wrap_u8]
  have e2 : IntKind.u8.wrap ((x : Int) / 256) = (x : Int) / 256 % 256 := by rw [IntKind.wrap_u8]
  have e3 : IntKind.u8.wrap ((x : Int) / 65536) = (x : Int) / 65536 % 256 := by rw [IntKind.wrap_u8]
  have e4 : IntKind.u8.wrap ((x : Int) / 16777216) = (x : Int) / 16777216 := by rw [IntKind.wrap_u8]; omega
  rw [e1, e2, e3, e4]
  exact h
theorem SumAt.conv {x : Nat} {v : Value} {w : World} {B : ByteArray} (hB : B = ⟨(sumB x).toArray⟩) (h : SumAt x v w) : (convert 41 9 v).run Tryd.prog w = .ok (.string B) w := by
  obtain ⟨b, rfl, hb⟩ := h
  rw [hB]
  exact run_str_buf (P := Tryd.prog) _ Tryd.underlying41 Tryd.underlying5 Tryd.underlying9 (hb.own 4 rfl (by unfold maxLen; omega))
set_option maxRecDepth 100000 in
set_option maxHeartbeats 1000000 in
theorem One_any (p : ByteArray) (w : World) (hp : p.size ≤ 1000000000) :
    Calls Tryd.prog 22 #[.string p] w fun e w' => e = .returned (.string ⟨(frB p).toArray⟩) ∧ w.grownBy w' none := by
  have hpi : (p.size : Int) ≤ 1000000000 := by omega
  have hmx : p.size ≤ maxLen := by unfold maxLen; omega
  have hnl := numB_len (n := (p.size : Int)) (by omega)
  have HPI := Lib.hid hpi
  clear hp
  go_enter Tryd.func22, Tryd.ntmps22
  go_wp2_with fail
  refine (refSum_any p _ hmx).mono ?_
  rintro e w2 ⟨rfl, rfl⟩
  have hb : (((more 0#32 p.data.toList).toNat : Nat) : Int) ≤ 4294967295 := by
    have := (more 0#32 p.data.toList).isLt
    omega
  obtain ⟨x, hx⟩ : ∃ x, x = (more 0#32 p.data.toList).toNat := ⟨_, rfl⟩
  rw [← hx] at hb ⊢
  have HX : Hid (x = crcN p) := hx
  clear hx hmx
  obtain ⟨nb, hnb⟩ : ∃ nb, nb = numB (p.size : Int) := ⟨_, rfl⟩
  rw [← hnb] at hnl
  have HNB := Lib.hid hnb
  clear hnb
  have hs1 : (⟨nb.toArray⟩ : ByteArray).size = nb.length := by show nb.toArray.size = _; simp
  have hs2 : (⟨(sumB x).toArray⟩ : ByteArray).size = 4 := rfl
  have hbs : ((⟨nb.toArray⟩ : ByteArray).size : Int) ≤ 8388608 := by rw [hs1]; omega
  have hb2 : ((⟨(sumB x).toArray⟩ : ByteArray).size : Int) ≤ 8388608 := by rw [hs2]; omega
  obtain ⟨A, hA⟩ : ∃ A : ByteArray, A = ⟨nb.toArray⟩ := ⟨_, rfl⟩
  have HA0 : Hid (A = ⟨(numB (p.size : Int)).toArray⟩) := by show _ = _; rw [hA, HNB.out]
  obtain ⟨B, hB⟩ : ∃ B : ByteArray, B = ⟨(sumB x).toArray⟩ := ⟨_, rfl⟩
  have hz1 : A.size + B.size ≤ 14 := by rw [hA, hB, hs1, hs2]; omega
  have hz2 : ¬ (9223372036854775807 < A.size + B.size) := by omega
  have hz3 : ¬ (9223372036854775807 < A.size + B.size + p.size) := by omega
  have hz4 : ¬ (9223372036854775807 < (A ++ B).size + p.size) := by rw [ByteArray.size_append]; omega
  have HA := Lib.hid hA
  have HB := Lib.hid hB
  clear hs1 hs2 hbs hb2 hA hB
  go_wp2
  refine wp_region_rel (fun W => w.grownBy W none) (fun W W' => W.grownBy W' none) (by kernel_rfl) (by kernel_rfl) (fun W => grow_refl W none) (grow_drawn (grow_refl _ _)) ?_
  repeat (refine wpRel_det ?_; apply Exists.intro; refine ⟨fun W hI => ?_, ?_⟩; focus (go_simp; first | exact ⟨rfl, grow_refl _ _⟩ | exact refNum_rel _ _ HA0.out (by have := HPI.out; omega) hI))
  refine wpRel_step (fun v W => SumAt x v W) (fun v W W' hr h => h.kept hr) (fun W hI => ?_) ?_
  focus (go_simp; exact ⟨SumAt.newW x W hb, grow_none hI (World.grownBy_alloc _ _ _), World.grownBy_alloc _ _ _⟩)
  refine wpRel_det ?_; apply Exists.intro; refine ⟨fun W hI => ?_, ?_⟩
  focus (go_simp; intro v hv; have hc := hv.conv HB.out; obtain ⟨b, rfl, _⟩ := hv; go_simp; exact ⟨rfl, grow_refl _ _⟩)
  repeat (refine wpRel_det ?_; apply Exists.intro; refine ⟨fun W hI => ?_, ?_⟩; focus (go_simp; first | exact ⟨rfl, grow_refl _ _⟩))
  refine wpRel_nil ?_
  intro w' hI
  go_simp
  intro v1 _
  go_wp2
  go_ret
  have hfin : A ++ B ++ p = ⟨(frB p).toArray⟩ := by
    have hp' : p = ⟨p.data.toList.toArray⟩ := by apply ByteArray.ext; simp
    unfold frB
    rw [← HX.out, ← HNB.out, HA.out, HB.out, app_lists, ← List.append_assoc]
    conv => lhs; rw [hp']
    rw [app_lists]
  exact ⟨congrArg (fun z => Ending.returned (.string z)) hfin, hI⟩
end Go.Proofs.YtljhghlginachaaDoor
