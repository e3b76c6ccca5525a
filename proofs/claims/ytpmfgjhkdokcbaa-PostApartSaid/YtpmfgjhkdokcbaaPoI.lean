/- Stage 6: Purge, Copy; the document's Purge. -/
import Derived.Test.YtpmfgjhkdokcbaaPoF
import Derived.Test.YtpmfgjhkdokcbaaPoH
import Derived.Test.YtpmfgjhkdokcbaaRelT
namespace Go.Proofs.Ytpmfgjhkdokcbaa
open Go.RowKit
set_option linter.unusedVariables false
def purgeR (ns : List Int) (L : List Lt) : List Lt := L.filter (keepB ns)
def purgeC (ns : List Int) (L : List Lt) : Int := (L.length : Int) - ((purgeR ns L).length : Int)
theorem purgeR_le (ns : List Int) (L : List Lt) : (purgeR ns L).length ≤ L.length := List.length_filter_le _ _
set_option maxRecDepth 100000 in
set_option maxHeartbeats 1000000 in
theorem purge_any (t : TypeId) (b : Nat) (v : Value) (L : List Lt) (m : Nat) (vn : Value) (ns : List Int) (w : World) (h : PAt t w b v L m) (hr : RowAt w vn (ns.map (Value.int .i64))) (hl : ns.length ≤ maxLen) (hn : ∀ g, vn.ownBlock = some g → v.ownBlock ≠ some g) :
    Calls Try.prog 31 #[.pointer (some ⟨b, 0, none⟩), vn] w fun e w' => e = .returned (.int .i64 (purgeC ns L)) ∧ PEnd t b v (purgeR ns L) m w w' := by
  have hb := h.lt
  have hmm := h.most
  have hml := h.len
  have hli : (L.length : Int) ≤ 512 := by omega
  have hpl := purgeR_le ns L
  obtain ⟨av, cv, e⟩ := hr.len
  rw [List.length_map] at e
  subst e
  have gA : w.grownBy (w.alloc (.cells #[.slice av ns.length cv] 34)) none := World.grownBy_alloc _ _ _
  have hA := h.keep gA
  have hS : Seen (w.alloc (.cells #[.slice av ns.length cv] 34)) w.heap.size (.slice av ns.length cv) ns := ⟨(Blk.new w 34 [.slice av ns.length cv]).cell 0 (by simp), by simp, hr.kept gA, hl⟩
  have hown := hA.own
  obtain ⟨p, c, rfl⟩ := h.form
  have c0 := hA.c0
  have hlt0 : ∀ g, (Value.slice p L.length c).ownBlock = some g → g < w.heap.size := fun g hg => h.own.lt hg
  have HS := Lib.hid hS
  have HA := Lib.hid hA
  have HO := Lib.hid hown
  have GA := Lib.hid gA
  have HLT := Lib.hid hlt0
  have HN := Lib.hid hn
  have HPL := Lib.hid hpl
  have HFAR := Lib.hid h.far
  clear hS hA hown gA h hlt0 hn hpl hr
  go_enter Try.func31, Try.ntmps31
  go_wp2_with fail
  refine (DeleteFunc_any _ L w.heap.size _ ns _ HO.out (by omega) HS.out (fun e => by have := HLT.out _ e; omega) (fun g hg => HN.out g hg)).mono ?_
  rintro e w3 ⟨v3, rfl, o3, e3, C3⟩
  have b3 := C3.blk HA.out.blk HFAR.out
  have f3 := b3.frozen 0
  have c3 := b3.cell 0 (by simp)
  obtain ⟨a3, k3, rfl⟩ := o3.read.len
  have hst : PAt t (w3.setCell ⟨b, 0, none⟩ (.slice a3 (purgeR ns L).length k3)) b (.slice a3 (purgeR ns L).length k3) (purgeR ns L) m ∧ Chg (PS b (Value.slice p L.length c)) w (w3.setCell ⟨b, 0, none⟩ (.slice a3 (purgeR ns L).length k3)) := by
    refine ⟨⟨b3.set_ 0 _, o3.same fun g hg => Below.heap_setCell _ _ _ _ (fun e => HFAR.out (by rw [← e3, hg, e])), by rw [show (Value.slice a3 (purgeR ns L).length k3).ownBlock = _ from e3]; exact HFAR.out, by have := HPL.out; omega, hmm⟩, ?_⟩
    exact ((Chg.of_none GA.out (S := PS b (Value.slice p L.length c))).trans C3 (fun _ _ h => .inr h)).trans (Chg.of_row (grow_set w3 ⟨b, 0, none⟩ _) (S := fun i => i = b) (fun i hi _ => by injection hi with hi; exact hi.symm)) (fun i _ hi => .inl hi)
  have HST := Lib.hid hst
  have e3 : (Value.slice a3 (purgeR ns L).length k3).ownBlock = (Value.slice p L.length c).ownBlock := e3
  have HE3 := Lib.hid e3
  obtain ⟨N, hN⟩ : ∃ N, N = (purgeR ns L).length := ⟨_, rfl⟩
  have HPC : Hid (purgeC ns L = (L.length : Int) - (N : Int)) := by show _ = _; unfold purgeC; rw [hN]
  have hq := (hst.1.c0)
  rw [show (List.filter (keepB ns) L).length = N from hN.symm]
  rw [← hN] at HST HE3 hq
  have hNl : (N : Int) ≤ 512 := by have := HPL.out; omega
  have hN0 : (0 : Int) ≤ N := by omega
  clear hst o3 C3 b3 hN e3
  go_wp2
  go_ret
  exact ⟨by rw [HPC.out]; rfl, _, HST.out.1, HST.out.2, fun g hg => .inl (by rw [← HE3.out]; exact hg)⟩
set_option maxRecDepth 100000 in
theorem Purge_any (t : TypeId) (b : Nat) (v : Value) (L : List Lt) (m : Nat) (vn : Value) (ns : List Int) (w : World) (h : PAt t w b v L m) (hr : RowAt w vn (ns.map (Value.int .i64))) (hl : ns.length ≤ maxLen) (hn : ∀ g, vn.ownBlock = some g → v.ownBlock ≠ some g) :
    Calls Try.prog 19 #[.pointer (some ⟨b, 0, none⟩), vn] w fun e w' => e = .returned (.int .i64 (purgeC ns L)) ∧ PEnd t b v (purgeR ns L) m w w' := by
  go_enter Try.func19, Try.ntmps19
  go_wp2_with fail
  refine (purge_any t b v L m vn ns _ h hr hl hn).mono ?_
  rintro e w3 ⟨rfl, hE⟩
  go_wp2
  go_ret
  exact ⟨rfl, hE⟩
set_option maxRecDepth 100000 in
theorem Clone_any (v : Value) (L : List Lt) (w : World) (hr : ReadK Lt.cells 3 w v L) (hl : L.length ≤ 1000) (hv : v = .slice none 0 0 ∨ ∃ a n c, v = .slice (some a) n c) :
    Calls Try.prog 30 #[v] w fun e w' => ∃ v', e = .returned v' ∧ OwnK Lt.cells 3 33 w' v' L ∧ NewBlk w v' ∧ w.grownBy w' none := by
  obtain ⟨i0, hi, hz0, hz1, hz2⟩ := info_parts info_lt
  rcases hv with rfl | ⟨a, n, c, rfl⟩
  · have hnl := fun (w : World) => Lib.run_eql_slice_nil (P := Try.prog) w 40 33 none 0 0 0 0 Try.underlying40
    have hL : L = [] := by
      obtain ⟨a, c, e, _⟩ := hr
      injection e with _ e _
      exact List.eq_nil_of_length_eq_zero e.symm
    subst hL
    go_enter Try.func30, Try.ntmps30
    go_wp2
    go_ret
    exact ⟨_, rfl, OwnK.nil _ _, newblk_nil _, grow_refl _ _⟩
  · have hnl := fun (w : World) => Lib.run_eql_slice_nil (P := Try.prog) w 40 33 (some a) n c 0 0 Try.underlying40
    have rA := hr.kept (World.grownBy_alloc w (.cells #[] 33) none)
    have HL := Lib.hid hl
    clear hl hr
    go_enter Try.func30, Try.ntmps30
    go_wp2_with (at_builtin; refine wpList_append_k rfl _ _ 40 rfl 33 i0 _ 32 Lt.len Lt.ones (by omega) Try.underlying40 hi hz0 hz1 hz2 rfl _ rfl (OwnK.empty _ _) _ rfl rA (by have := HL.out; show 0 + _ ≤ 2^63-1; omega) (by have := HL.out; show (0 + _) * 32 ≤ _; omega) ?_)
    intro v4 w4 o4 g4 m4
    have N4 := (newblk_at w w.heap.size 0 0 (Nat.le_refl _) 0).moved (w1 := w.alloc (.cells #[] 33)) (by simp) m4
    have X4 := grow_newblk (World.grownBy_alloc w (.cells #[] 33) none) (newblk_at w w.heap.size 0 0 (Nat.le_refl _) 0) g4
    clear rA g4 m4
    go_wp2
    go_ret
    exact ⟨_, rfl, by simpa using o4, N4, X4⟩
theorem OwnK.nilOr {α : Type} {enc : α → List Value} {k : Nat} {L : List α} {e : TypeId} {w : World} {v : Value} (h : OwnK enc k e w v L) : v = .slice none 0 0 ∨ ∃ a n c, v = .slice (some a) n c := by
  rcases h.2 with ⟨rfl, _⟩ | ⟨g, cap, cur, rfl, _⟩
  · exact .inl rfl
  · exact .inr ⟨_, _, _, rfl⟩
def CpV (w : World) (L : List Lt) (v : Value) (W : World) : Prop := OwnK Lt.cells 3 33 W v L ∧ NewBlk w v
def CpR (w : World) (L : List Lt) (u : Value) (W : World) : Prop := ∃ v, u = .agg #[v] ∧ CpV w L v W
def CpB (w : World) (L : List Lt) (m : Nat) (u : Value) (W : World) : Prop := ∃ v, u = .agg #[v, .int .i64 m] ∧ CpV w L v W
def CpP (w : World) (L : List Lt) (m : Nat) (u : Value) (W : World) : Prop := ∃ g v, u = .pointer (some ⟨g, 0, none⟩) ∧ PAt 58 W g v L m ∧ w.heap.size ≤ g ∧ NewBlk w v
theorem CpV.keep {w : World} {L : List Lt} (v : Value) (W W' : World) (g : W.grownBy W' none) (h : CpV w L v W) : CpV w L v W' := ⟨h.1.keep g, h.2⟩
theorem CpR.keep {w : World} {L : List Lt} (v : Value) (W W' : World) (g : W.grownBy W' none) (h : CpR w L v W) : CpR w L v W' := by obtain ⟨u, e, h⟩ := h; exact ⟨u, e, CpV.keep _ _ _ g h⟩
theorem CpB.keep {w : World} {L : List Lt} {m : Nat} (v : Value) (W W' : World) (g : W.grownBy W' none) (h : CpB w L m v W) : CpB w L m v W' := by obtain ⟨u, e, h⟩ := h; exact ⟨u, e, CpV.keep _ _ _ g h⟩
theorem CpP.keep {w : World} {L : List Lt} {m : Nat} (v : Value) (W W' : World) (g : W.grownBy W' none) (h : CpP w L m v W) : CpP w L m v W' := by obtain ⟨u, x, e, h1, h2⟩ := h; exact ⟨u, x, e, h1.keep g, h2⟩
set_option maxRecDepth 100000 in
set_option maxHeartbeats 1000000 in
theorem Copy_any (b : Nat) (v : Value) (L : List Lt) (m : Nat) (w : World) (h : PAt 58 w b v L m) :
    Calls Try.prog 16 #[.pointer (some ⟨b, 0, none⟩)] w fun e w' => ∃ g v', e = .returned (.pointer (some ⟨g, 0, none⟩)) ∧ PAt 58 w' g v' L m ∧ w.heap.size ≤ g ∧ NewBlk w v' ∧ w.grownBy w' none := by
  have hb := h.lt
  have hmm := h.most
  have hml := h.len
  have H := Lib.hid h
  have hnv := h.own.nilOr
  obtain ⟨p, c, rfl⟩ := h.form
  have c0 := h.c0
  have c1 := h.c1
  have HNV := Lib.hid hnv
  clear h hnv
  go_enter Try.func16, Try.ntmps16
  go_wp2_with fail
  refine wp_region_rel (fun W => w.grownBy W none) (fun W W' => W.grownBy W' none) (by kernel_rfl) (by kernel_rfl) (fun W => grow_refl W none) (grow_drawn (grow_refl _ _)) ?_
  iterate 5 (refine wpRel_det ?_; apply Exists.intro; refine ⟨fun W hI => ?_, ?_⟩; focus (have hc0 := (H.out.keep hI).c0; go_simp; exact ⟨rfl, grow_refl _ _⟩))
  refine wpRel_step (CpV w L) CpV.keep (fun W hI => ?_) ?_
  · go_simp
    exact (Clone_any _ L W (H.out.keep hI).own.read (by omega) HNV.out).mono fun e W' ⟨v', he, ho, hn, hg⟩ => ⟨v', he, ⟨ho, fun k hk => Nat.le_trans hI.size (hn k hk)⟩, grow_none hI hg, hg⟩
  refine wpRel_step (CpR w L) CpR.keep (fun W hI => ?_) ?_
  · go_simp
    intro v hv
    obtain ⟨o, n⟩ := hv
    obtain ⟨a', c', rfl⟩ := o.read.len
    go_simp
    exact ⟨⟨_, rfl, o, n⟩, grow_refl _ _⟩
  iterate 4 (refine wpRel_det ?_; apply Exists.intro; refine ⟨fun W hI => ?_, ?_⟩; focus (have hc1 := (H.out.keep hI).c1; go_simp; exact ⟨rfl, grow_refl _ _⟩))
  refine wpRel_step (CpB w L m) CpB.keep (fun W hI => ?_) ?_
  · go_simp
    intro v hv
    obtain ⟨u, rfl, o, n⟩ := hv
    obtain ⟨a', c', rfl⟩ := o.read.len
    go_simp
    exact ⟨⟨_, rfl, o, n⟩, grow_refl _ _⟩
  refine wpRel_step (CpP w L m) CpP.keep (fun W hI => ?_) ?_
  · go_simp
    intro v hv
    obtain ⟨u, rfl, o, n⟩ := hv
    obtain ⟨a', c', rfl⟩ := o.read.len
    have ga : W.grownBy (W.alloc (.cells #[.slice a' L.length c', .int .i64 m] 58)) none := World.grownBy_alloc _ _ _
    have hp : PAt 58 (W.alloc (.cells #[.slice a' L.length c', .int .i64 m] 58)) W.heap.size (.slice a' L.length c') L m :=
      ⟨Blk.new W 58 [.slice a' L.length c', .int .i64 (m : Int)], o.keep ga, fun e => by have := o.lt e; omega, hml, hmm⟩
    go_simp
    exact ⟨⟨_, _, rfl, hp, hI.size, n⟩, grow_none hI ga⟩
  refine wpRel_step (CpP w L m) CpP.keep (fun W hI => ?_) ?_
  · go_simp
    intro v hv
    obtain ⟨g, u, rfl, hp, hg, n⟩ := hv
    go_simp
    exact ⟨⟨_, _, rfl, hp, hg, n⟩, grow_refl _ _⟩
  refine wpRel_nil ?_
  intro w' hI
  go_simp
  intro v1 hv1 v2 hv2 v3 hv3 v4 hv4 v5 hv5
  obtain ⟨g, u, rfl, hp, hg, n⟩ := hv5
  clear hv1 hv2 hv3 hv4
  go_wp2
  go_ret
  exact ⟨g, u, rfl, hp, hg, n, hI⟩
end Go.Proofs.Ytpmfgjhkdokcbaa
