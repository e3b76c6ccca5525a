/- Stage 5: Names. -/
import Derived.Test.YtgfmmchmkfboaaaDkO
namespace Go.Proofs.Ytgfmmchmkfboaaa
open Go.RowKit Go.Maps Go.Sort
set_option linter.unusedVariables false
def namesP (ts : List (List UInt8)) (p : ByteArray) : List (List UInt8) := ts.filter (fun x => Lib.hasPrefix x p.data.toList)
def NamesE (G : ByteArray → Option Nat) (n : Nat) (d : Dk) (p : ByteArray) (w : World) (e : Ending) (w' : World) : Prop :=
  ∃ v l, e = .returned v ∧ ((d.down = true ∧ l = []) ∨ (d.down = false ∧ ∃ ts, Names G ts ∧ l = namesP ts p)) ∧ l.length ≤ n ∧ w'.ownsRow 0 9 1 v l.length (l.map encStr) ∧ NewBlk w v ∧ w.grownBy w' none
set_option maxRecDepth 100000 in
set_option maxHeartbeats 2000000 in
theorem Names_any (b mb n : Nat) (G : ByteArray → Option Nat) (d : Dk) (p : ByteArray) (w : World) (h : DAt w b mb n G d) :
    Calls Try.prog 17 #[.pointer (some ⟨b, 0, none⟩), .string p] w (NamesE G n d p w) := by
  obtain ⟨i0, hi, hz0, hz1, hz2⟩ := info_parts Try.info05_string
  have c3 := h.c3
  have H := Lib.hid h
  have HN1 := Lib.hid h.n1
  clear h
  unfold NamesE
  cases hd : d.down
  · rw [hd] at c3
    clear hd
    go_enter Try.func17, Try.ntmps17
    go_wp2_with fail
    refine (all_any b mb n G d w H.out).mono ?_
    rintro e w1 ⟨vl, ts, rfl, hN, hln, hown, g1⟩
    have HN := Lib.hid hN
    have HLN := Lib.hid hln
    have HG1 := Lib.hid g1
    have hL := RowN.of_own (S := DS b mb G) hown (fun i hi hs => by have := H.out.live i hs; omega)
    have hlen : (ts.length : Int) ≤ 1000000 := by have := HN1.out; omega
    obtain ⟨al, cl, rfl, hcl, hcells⟩ := hL
    have HCELL := Lib.hid hcells
    rw [List.length_map]
    clear hN hln g1 hown hcl hcells
    go_wp2
    go_loopw [5, 19] (fun v i wr => ∃ k : Nat, k ≤ ts.length ∧ i = .int .i64 k ∧ (namesP (ts.take k) p).length ≤ k ∧ wr.ownsRow 0 9 1 v (namesP (ts.take k) p).length ((namesP (ts.take k) p).map encStr) ∧ NewBlk w1 v ∧ w1.grownBy wr none) (fun _ i _ => ts.length - (intOf i).toNat)
    case atStart => exact ⟨0, Nat.zero_le _, rfl, Nat.le_refl _, ⟨rfl, .inl ⟨rfl, rfl⟩⟩, newblk_nil _, grow_refl _ _⟩
    case round =>
      obtain ⟨k, hk, rfl, hfl, hrow, hnb, hg⟩ := hrel
      by_cases hlt : k < ts.length
      · obtain ⟨s, hs⟩ : ∃ s, s = nm ts[k] := ⟨_, rfl⟩
        have HK := Lib.hid hlt
        have i1 : (k : Int) < ts.length := by omega
        have i0' : (0 : Int) ≤ k := by omega
        obtain ⟨bl, ol, rfl, hbl, hcl⟩ : ∃ bl ol, al = some ⟨bl, ol, none⟩ ∧ bl < w1.heap.size ∧ w1.cell? ⟨bl, ol + k, none⟩ = some (.string s) := by
          rcases HCELL.out with y | ⟨bl, ol, y1, y2, y3, y4⟩
          · have : ts.length = 0 := by have := congrArg List.length y; simpa using this
            omega
          · refine ⟨bl, ol, y1, y2, ?_⟩
            rw [y4 k (by simpa using hlt), hs]
            simp [List.getD, List.getElem?_eq_getElem hlt]
        have cl1 : wr.cell? ⟨bl, ol + k, none⟩ = some (.string s) := by rw [← hcl]; exact World.cell?_of_block (hg.block bl hbl (by simp))
        have HST : Hid (namesP (ts.take (k + 1)) p = namesP (ts.take k) p ++ (if Lib.hasPrefix s.data.toList p.data.toList then [ts[k]] else [])) := by
          show _ = _
          unfold namesP
          rw [List.take_succ_eq_append_getElem hlt, List.filter_append, hs]
          congr 1
          rw [List.filter_cons, List.filter_nil]
          rfl
        have HX := Lib.hid (show s = nm ts[k] from hs)
        have HROW := Lib.hid hrow
        have HNB := Lib.hid hnb
        have HG := Lib.hid hg
        have HFL := Lib.hid hfl
        clear hk hfl hrow hnb hg hs hcl hlt
        go_wp2_with fail
        refine (Try.strings_HasPrefix s p wr).mono ?_
        rintro e w2 ⟨rfl, rfl⟩
        cases hp : Lib.hasPrefix s.data.toList p.data.toList
        · have HS2 : Hid (namesP (ts.take (k + 1)) p = namesP (ts.take k) p) := by show _ = _; rw [HST.out, hp]; simp
          clear hp
          go_wp2_with fail
          go_roundw
          case rel => exact ⟨k + 1, by have := HK.out; omega, by go_num, by rw [HS2.out]; have := HFL.out; omega, by rw [HS2.out]; exact HROW.out, HNB.out, HG.out⟩
          case measure => have := HK.out; simp [intOf]; omega
        · have HS2 : Hid (namesP (ts.take (k + 1)) p = namesP (ts.take k) p ++ [ts[k]'HK.out]) := by show _ = _; rw [HST.out, hp]; rfl
          clear hp
          go_wp2_with (at_builtin; refine wpList_append_row _ rfl _ _ 38 rfl 9 i0 (.string ⟨#[]⟩) 16 Try.underlying38 hi hz0 hz1 hz2 rfl _ (namesP (ts.take k) p).length ((namesP (ts.take k) p).map encStr) rfl (HROW.out.alloc _) _ [Value.string s] rfl (RowAt.lit w2 [Value.string s] _ _ _ rfl) (by intro u hu; simp at hu; subst hu; rfl) (by have := HFL.out; have := HK.out; have := HLN.out; have := HN1.out; show _ + 1 ≤ 2^63-1; omega) (by have := HFL.out; have := HK.out; have := HLN.out; have := HN1.out; show (_ + 1) * 16 ≤ _; omega) ?_)
          intro v8 w8 o8 g8 m8
          have NB8 := Lib.hid (HNB.out.moved (by have := HG.out.size; simp; omega) m8)
          have G8 := Lib.hid (grow_newblk (grow_then_none HG.out (World.grownBy_alloc _ _ none)) HNB.out g8)
          have O8 : Hid (w8.ownsRow 0 9 1 v8 (namesP (ts.take (k + 1)) p).length ((namesP (ts.take (k + 1)) p).map encStr)) := by
            show World.ownsRow _ _ _ _ _ _ _
            rw [HS2.out, List.length_append, List.map_append]
            have := o8
            rw [HX.out] at this
            exact this
          clear o8 g8 m8
          go_wp2_with fail
          go_roundw
          case rel => exact ⟨k + 1, by have := HK.out; omega, by go_num, by rw [HS2.out, List.length_append]; have := HFL.out; simp; omega, O8.out, NB8.out, G8.out⟩
          case measure => have := HK.out; simp [intOf]; omega
      · obtain rfl : k = ts.length := by omega
        have HROW := Lib.hid hrow
        rw [List.take_length] at hrow hfl
        have hfin := Lib.hid (show _ ∧ _ ∧ _ ∧ _ from ⟨hrow, hfl, hnb, hg⟩)
        clear hrow hfl hnb hg hlt hk HROW
        go_wp2_with fail
        go_ret
        refine ⟨_, namesP ts p, rfl, .inr ⟨by simp, ts, HN.out, rfl⟩, by have := hfin.out.2.1; have := HLN.out; omega, hfin.out.1, fun j hj => ?_, grow_none HG1.out hfin.out.2.2.2⟩
        have := hfin.out.2.2.1 j hj
        have := HG1.out.size
        omega
  · rw [hd] at c3
    clear hd
    go_enter Try.func17, Try.ntmps17
    go_wp2_with fail
    go_ret
    exact ⟨_, [], rfl, .inl ⟨by simp, rfl⟩, Nat.zero_le _, ⟨rfl, .inl ⟨rfl, rfl⟩⟩, newblk_nil _, grow_refl _ _⟩
end Go.Proofs.Ytgfmmchmkfboaaa
