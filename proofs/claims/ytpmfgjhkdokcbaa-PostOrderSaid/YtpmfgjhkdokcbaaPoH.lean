/- Stage 6: letters are struck out: DeleteFunc, Purge. -/
import Derived.Test.YtpmfgjhkdokcbaaPoG
namespace Go.Proofs.Ytpmfgjhkdokcbaa
open Go.RowKit
set_option linter.unusedVariables false
theorem set3 {α : Type} (l : List α) (i : Nat) (a b c : α) (h : i + 2 < l.length) : ((l.set i a).set (i + 1) b).set (i + 2) c = l.take i ++ [a, b, c] ++ l.drop (i + 3) := by
  apply List.ext_getElem?
  intro j
  have hl : (l.take i).length = i := by rw [List.length_take]; omega
  rw [List.append_assoc]
  rcases Nat.lt_or_ge j i with h1 | h1
  · rw [List.getElem?_append_left (by omega), List.getElem?_take_of_lt h1, List.getElem?_set_ne (by omega), List.getElem?_set_ne (by omega), List.getElem?_set_ne (by omega)]
  · rw [List.getElem?_append_right (by omega), hl]
    by_cases e0 : j = i
    · subst e0
      rw [List.getElem?_set_ne (by omega), List.getElem?_set_ne (by omega), List.getElem?_set_self (by omega)]; simp
    · by_cases e1 : j = i + 1
      · subst e1
        rw [List.getElem?_set_ne (by omega), List.getElem?_set_self (by simp; omega), show i + 1 - i = 1 by omega]; simp
      · by_cases e2 : j = i + 2
        · subst e2
          rw [List.getElem?_set_self (by simp; omega), show i + 2 - i = 2 by omega]; simp
        · rw [List.getElem?_set_ne (by omega), List.getElem?_set_ne (by omega), List.getElem?_set_ne (by omega), List.getElem?_append_right (by simp; omega), List.getElem?_drop]
          congr 1
          simp; omega
theorem set3_heap (w : World) (g o : Nat) (cur : Array Value) (T : TypeId) (a b c : Value) (hh : w.heap[g]? = some (.cells cur T (0, 0))) (h : o + 2 < cur.size) :
    (((w.setCell ⟨g, o, none⟩ a).setCell ⟨g, o + 1, none⟩ b).setCell ⟨g, o + 2, none⟩ c).heap[g]? = some (.cells (cur.toList.take o ++ [a, b, c] ++ cur.toList.drop (o + 3)).toArray T (0, 0)) := by
  have : (((w.setCell ⟨g, o, none⟩ a).setCell ⟨g, o + 1, none⟩ b).setCell ⟨g, o + 2, none⟩ c).heap[g]? = some (.cells (((cur.setIfInBounds o a).setIfInBounds (o + 1) b).setIfInBounds (o + 2) c) T (0, 0)) := by
    simp [World.setCell, Array.getElem?_modify, hh]
  rw [this]
  congr 2
  apply Array.ext'
  rw [Array.toList_setIfInBounds, Array.toList_setIfInBounds, Array.toList_setIfInBounds, set3 _ _ _ _ _ (by simpa using h)]
theorem OwnK.frozen3 {α : Type} {enc : α → List Value} {k : Nat} {L : List α} {e : TypeId} {w : World} {g n c : Nat} (h : OwnK enc k e w (.slice (some ⟨g, 0, none⟩) n c) L) (i : Nat) : w.frozen? ⟨g, i, none⟩ = false := by
  obtain ⟨cur, _, hh, _⟩ := h.parts
  simp [World.frozen?, hh]
def keepB (ns : List Int) (l : Lt) : Bool := !hitB ns l
/-- How far the row is, ahead of round j: i letters of the first j stay. -/
def DelAt (ns : List Int) (L : List Lt) (g c : Nat) (w0 : World) (i j : Nat) (w : World) : Prop :=
  ∃ M, OwnK Lt.cells 3 33 w (.slice (some ⟨g, 0, none⟩) L.length c) M ∧ M.take i = (L.take j).filter (keepB ns) ∧ M.drop j = L.drop j ∧ i < j ∧ j ≤ L.length ∧ i ≤ M.length ∧ Chg (fun x => x = g) w0 w
theorem DelAt.len {ns : List Int} {L : List Lt} {g c : Nat} {w0 w : World} {i j : Nat} (h : DelAt ns L g c w0 i j w) : i = ((L.take j).filter (keepB ns)).length := by
  obtain ⟨M, _, h1, _, _, _, h5, _⟩ := h
  rw [← h1, List.length_take]; omega
theorem DelAt.hit {ns : List Int} {L : List Lt} {g c : Nat} {w0 w w' : World} {i j : Nat} (h : DelAt ns L g c w0 i j w) (hj : j < L.length) (hh : hitB ns L[j] = true) (hg : w.grownBy w' none) : DelAt ns L g c w0 i (j + 1) w' := by
  obtain ⟨M, o, h1, h2, h3, h4, h5, h6⟩ := h
  refine ⟨M, o.keep hg, ?_, ?_, by omega, by omega, h5, h6.trans (Chg.of_none hg (S := fun x => x = g)) (fun _ _ h => h)⟩
  · rw [h1, take_snocL L j hj, List.filter_append]; simp [keepB, hh]
  · have := congrArg (List.drop 1) h2
    rwa [List.drop_drop, List.drop_drop] at this
theorem DelAt.get {ns : List Int} {L : List Lt} {g c : Nat} {w0 w : World} {i j : Nat} (h : DelAt ns L g c w0 i j w) (hj : j < L.length) :
    ∃ M, OwnK Lt.cells 3 33 w (.slice (some ⟨g, 0, none⟩) L.length c) M ∧ M.length = L.length ∧ M[j]? = some L[j] ∧ ∃ y, M[i]? = some y := by
  obtain ⟨M, o, h1, h2, h3, h4, h5, h6⟩ := h
  have hn : M.length = L.length := by obtain ⟨_, hn, _⟩ := o.parts; exact hn.symm
  refine ⟨M, o, hn, ?_, M[i], List.getElem?_eq_getElem (by omega)⟩
  have := congrArg (fun l => l[0]?) h2
  simp only [List.getElem?_drop, Nat.add_zero] at this
  rw [this, List.getElem?_eq_getElem hj]
theorem DelAt.push {ns : List Int} {L : List Lt} {g c : Nat} {w0 w : World} {i j : Nat} (h : DelAt ns L g c w0 i j w) (hj : j < L.length) (l : Lt) (hl : l = L[j]) (hh : hitB ns l = false) :
    DelAt ns L g c w0 (i + 1) (j + 1) (((w.setCell ⟨g, i * 3, none⟩ (.int .i64 l.f)).setCell ⟨g, i * 3 + 1, none⟩ (.int .i64 l.t)).setCell ⟨g, i * 3 + 2, none⟩ (.string l.d)) := by
  obtain ⟨M, o, h1, h2, h3, h4, h5, h6⟩ := h
  have hn : M.length = L.length := by obtain ⟨_, hn, _⟩ := o.parts; exact hn.symm
  have hiM : i < M.length := by omega
  have hiL : i < L.length := by omega
  have hput : OwnK Lt.cells 3 33 (((w.setCell ⟨g, i * 3, none⟩ (.int .i64 l.f)).setCell ⟨g, i * 3 + 1, none⟩ (.int .i64 l.t)).setCell ⟨g, i * 3 + 2, none⟩ (.string l.d)) (.slice (some ⟨g, 0, none⟩) L.length c) (M.set i l) := by
    refine OwnK.put Lt.len o i hiL l ?_
    intro cur hc
    obtain ⟨cur', _, hh', h7, h8, h9, _⟩ := o.parts
    obtain rfl : cur = cur' := (Obj.cells.inj (Option.some.inj (hc.symm.trans hh'))).1
    have hsz : i * 3 + 2 < cur.size := by rw [h9]; omega
    have := set3_heap w g (i * 3) cur _ (.int .i64 l.f) (.int .i64 l.t) (.string l.d) hc hsz
    exact this
  refine ⟨M.set i l, hput, ?_, ?_, by omega, by omega, by rw [List.length_set]; omega, ?_⟩
  · rw [List.take_succ_eq_append_getElem (by rw [List.length_set]; exact hiM), List.getElem_set_self, List.take_set_of_le (Nat.le_refl _), h1, take_snocL L j hj, List.filter_append, ← hl]
    simp [keepB, hh]
  · rw [List.drop_set_of_lt (by omega)]
    have := congrArg (List.drop 1) h2
    rwa [List.drop_drop, List.drop_drop] at this
  · have s1 := fun (w : World) (a : Addr) (u : Value) (ha : a.block = g) => Chg.of_row (grow_set w a u) (S := fun x => x = g) (fun i hi _ => by injection hi with hi; rw [← hi, ha])
    exact ((h6.trans (s1 _ _ _ rfl) (fun _ _ h => h)).trans (s1 _ _ _ rfl) (fun _ _ h => h)).trans (s1 _ _ _ rfl) (fun _ _ h => h)
set_option maxRecDepth 100000 in
set_option maxHeartbeats 2000000 in
theorem DeleteFunc_any (v : Value) (L : List Lt) (bx : Nat) (vn : Value) (ns : List Int) (w : World) (ho : OwnK Lt.cells 3 33 w v L) (hl : L.length ≤ 512) (hs : Seen w bx vn ns) (hn1 : v.ownBlock ≠ some bx) (hn2 : ∀ b, vn.ownBlock = some b → v.ownBlock ≠ some b) :
    Calls Try.prog 33 #[v, .func (.func 34) #[] #[.pointer (some ⟨bx, 0, none⟩)]] w fun e w' =>
      ∃ v', e = .returned v' ∧ OwnK Lt.cells 3 33 w' v' (L.filter (keepB ns)) ∧ v'.ownBlock = v.ownBlock ∧ Chg (fun x => v.ownBlock = some x) w w' := by
  obtain ⟨i0, hi, hz0, hz1, hz2⟩ := info_parts info_lt
  have il : (L.length : Int) ≤ 512 := by omega
  have HS := Lib.hid hs
  have HR := Lib.hid ho.read
  have hv := ho.read.len
  clear hs
  obtain ⟨p, c, rfl⟩ := hv
  have HO := Lib.hid ho
  clear ho
  go_enter Try.func33, Try.ntmps33
  go_wp2_with fail
  refine (IndexFunc_any _ L bx vn ns _ HR.out hl HS.out).mono ?_
  rintro e w1 ⟨⟨r, rfl, hr⟩, g1⟩
  rcases hr with ⟨rfl, hr⟩ | ⟨j0, rfl, hj0, hr1, hr2⟩
  · have HF : Hid (L.filter (keepB ns) = L) := List.filter_eq_self.2 fun x hx => by unfold keepB; rw [hr x hx]; rfl
    clear hr
    go_wp2
    go_ret
    exact ⟨_, rfl, by rw [HF.out]; exact HO.out.keep g1, rfl, Chg.of_none g1⟩
  · obtain ⟨g, rfl⟩ : ∃ g, p = some ⟨g, 0, none⟩ := by
      rcases HO.out.2 with ⟨h0, h2⟩ | ⟨g, cap, cur, h0, _⟩
      · rw [h2] at hj0; exact absurd hj0 (Nat.not_lt_zero _)
      · injection h0 with e1 _ _; exact ⟨g, e1⟩
    have H0 : Hid (DelAt ns L g c w j0 (j0 + 1) w1) := by
      refine ⟨L, HO.out.keep g1, ?_, rfl, by omega, by omega, by omega, Chg.of_none g1⟩
      rw [take_snocL L j0 hj0, List.filter_append, List.filter_eq_self.2 (fun x hx => by unfold keepB; rw [hr2 x hx]; rfl)]
      simp [keepB, hr1]
    have hgn : L.length ≤ c := by obtain ⟨_, _, _, h, _⟩ := HO.out.parts; exact h
    have hgc : c ≤ 9223372036854775807 := by obtain ⟨_, _, _, _, h, _⟩ := HO.out.parts; exact h
    have j5 : (j0 : Int) ≤ 512 := by omega
    have jm : ((j0 : Int) == -1) = false := by simp
    clear hr1 hr2 g1
    go_wp2
    go_loopw [5, 6] (fun ii jj wr => ∃ i j : Nat, ii = .int .i64 i ∧ jj = .int .i64 j ∧ DelAt ns L g c w i j wr) (fun _ jj _ => L.length - (intOf jj).toNat)
    case atStart => exact ⟨j0, j0 + 1, rfl, by go_num, H0.out⟩
    case round =>
      obtain ⟨i, j, rfl, rfl, hD⟩ := hrel
      have HD := Lib.hid hD
      have hjl : j ≤ L.length := by obtain ⟨_, _, _, _, _, h, _⟩ := hD; exact h
      have hij : i < j := by obtain ⟨_, _, _, _, h, _⟩ := hD; exact h
      clear hD H0
      have j5' : (j : Int) ≤ 512 := by omega
      have i5' : (i : Int) ≤ 512 := by omega
      have j00 : (0 : Int) ≤ j := by omega
      have i00 : (0 : Int) ≤ i := by omega
      by_cases hlt : j < L.length
      · obtain ⟨M, oM, hMl, hMj, y, hMi⟩ := HD.out.get hlt
        obtain ⟨x, hx⟩ : ∃ x, x = L[j] := ⟨_, rfl⟩
        rw [← hx] at hMj
        obtain ⟨g', off, hge, hgl, r0, r1, r2⟩ := lt_at oM.read hMl j hlt x hMj
        injection hge with hge; injection hge with hge1 hge2
        subst hge1 hge2
        simp only [Nat.zero_add] at r0 r1 r2
        have HX := Lib.hid hx
        have i1 : (j : Int) < L.length := by omega
        have i2 : (i : Int) < L.length := by omega
        have gA : wr.grownBy (wr.alloc (.cells #[.int .i64 x.f, .int .i64 x.t, .string x.d] 33)) none := World.grownBy_alloc _ _ _
        have hCh : Hid (Chg (fun x => x = g) w wr) := by obtain ⟨_, _, _, _, _, _, _, h⟩ := HD.out; exact h
        have S1 := (HS.out.chg hCh.out (fun e => hn1 (by rw [e]; rfl)) (fun b hb e => hn2 b hb (by rw [e]; rfl))).keep gA
        have HOM := Lib.hid (⟨hMl, hMi⟩ : M.length = L.length ∧ M[i]? = some y)
        have OM := Lib.hid oM
        have HGA := Lib.hid gA
        clear hx hMl hMj hMi oM gA
        go_wp2_with fail
        refine (hit_any x bx vn ns _ S1.cell S1.lt S1.row S1.len).mono ?_
        rintro e w3 ⟨rfl, g3⟩
        cases hh : hitB ns x
        · have HH := Lib.hid hh
          have G3 := Lib.hid (grow_none HGA.out g3)
          have o3 := OM.out.keep G3.out
          obtain ⟨g', off, hge, hgl', c0, c1, c2⟩ := lt_at o3.read HOM.out.1 i (by omega) y HOM.out.2
          injection hge with hge; injection hge with hge1 hge2
          subst hge1 hge2
          simp only [Nat.zero_add] at c0 c1 c2
          have f0 := o3.frozen3 (i * 3)
          have f1 := o3.frozen3 (i * 3 + 1)
          have f2 := o3.frozen3 (i * 3 + 2)
          have bL := (Blk.new wr 33 [.int .i64 x.f, .int .i64 x.t, .string x.d]).keep g3
          have M0 := bL.cell 0 (by simp)
          have M1 := bL.cell 1 (by simp)
          have M2 := bL.cell 2 (by simp)
          clear hh g3 o3 bL S1 r0 r1 r2
          go_wp2
          go_roundw
          case rel =>
            have HD3 : DelAt ns L g c w i j w3 := by
              obtain ⟨M', o', a1, a2, a3, a4, a5, a6⟩ := HD.out
              exact ⟨M', o'.keep G3.out, a1, a2, a3, a4, a5, a6.trans (Chg.of_none G3.out (S := fun x => x = g)) (fun _ _ h => h)⟩
            exact ⟨i + 1, j + 1, by go_num, by go_num, DelAt.push HD3 hlt x HX.out HH.out⟩
          case measure => simp [intOf]; omega
        · have HH := Lib.hid hh
          have G3 := Lib.hid (grow_none HGA.out g3)
          clear hh g3 S1
          go_wp2
          go_roundw
          case rel => exact ⟨i, j + 1, rfl, by go_num, HD.out.hit hlt (by rw [← HX.out]; exact HH.out) G3.out⟩
          case measure => simp [intOf]; omega
      · obtain rfl : j = L.length := by omega
        have hic : i < c := by omega
        have i1 : (i : Int) < L.length := by omega
        have i2 : (i : Int) ≤ c := by omega
        have q1 : i ≤ c := by omega
        have q2 : ¬ (c = i) := by omega
        have q3 : i ≤ L.length := by omega
        have hN := HD.out.len
        obtain ⟨M, oM, hM1, hM2, _, _, hM5, hCh⟩ := HD.out
        have oC := oM.cut Lt.len i (by omega)
        rw [hM1, List.take_length] at oC
        rw [List.take_length] at hN
        obtain ⟨w5, hcl, g5, o5⟩ := run_clear_own (P := Try.prog) wr 40 33 0 _ Lt.len Try.underlying40 Try.zeroValue33 (fun v hv => Lt.ones ⟨0, 0, ⟨#[]⟩⟩ v hv) rfl oC (L.length - i) (c - i) (by omega) (by omega)
        have O5 := Lib.hid o5
        have C5 := Lib.hid (hCh.trans (Chg.of_row g5 (S := fun x => x = g) (fun i hi _ => by injection hi with hi; exact hi.symm)) (fun _ _ h => h))
        clear o5 g5 oC oM hM1 hM2 hM5 hCh hN
        go_wp2
        go_ret
        exact ⟨_, rfl, O5.out, rfl, ⟨C5.out.os, C5.out.tape, C5.out.output, C5.out.size, fun a ha hn => C5.out.block a ha (fun e => hn (by rw [e]; rfl))⟩⟩
end Go.Proofs.Ytpmfgjhkdokcbaa
