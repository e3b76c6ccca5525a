/- The document's drive: step, Read, Fuse, Sync, Remove. -/
import Derived.Test.YtgfmmchmkfboaaaRdA
namespace Go.Proofs.Ytgfmmchmkfboaaa
open Go.RowKit
set_option linter.unusedVariables false
def rstepB (d : Rk) : Bool := decide (d.left ≠ 0)
def rstepD (d : Rk) : Rk := if d.left = 0 then { d with off := true } else { d with left := if 0 < d.left then d.left - 1 else d.left, cnt := d.cnt + 1 }
theorem rstepD_L (d : Rk) : (rstepD d).L = d.L := by unfold rstepD; split <;> rfl
set_option maxRecDepth 100000 in
set_option maxHeartbeats 1000000 in
theorem rstep_any (b : Nat) (v : Value) (d : Rk) (w : World) (h : RAt w b v d) (hs : d.cnt < 1000000) :
    Calls Try.prog 49 #[.pointer (some ⟨b, 0, none⟩)] w fun e w' => e = .returned (.bool (rstepB d)) ∧ RAt w' b v (rstepD d) ∧ w.grownBy w' (some b) := by
  have c1 := h.c1
  have c3 := h.c3
  have c2 := h.c2
  have f1 := h.fr 1
  have f2 := h.fr 2
  have f3 := h.fr 3
  have hb := h.lt
  have h0 := h.l0
  have h1 := h.l1
  have hst : (d.cnt : Int) < 1000000 := by omega
  have hst0 : (0 : Int) ≤ d.cnt := by omega
  by_cases hz : d.left = 0
  · have HB : Hid (rstepB d = false ∧ rstepD d = { d with off := true }) := ⟨decide_eq_false (by simpa using hz), by unfold rstepD; rw [if_pos hz]⟩
    have hE := h.setb 2 (.bool true) { d with off := true } rfl h.l0 h.l1 h.s1 rfl
    have q1 : (d.left == 0) = true := by simpa using hz
    have HE := Lib.hid hE
    clear hE h hz
    go_enter Try.func49, Try.ntmps49
    go_wp2
    go_ret
    exact ⟨by rw [HB.out.1]; rfl, by rw [HB.out.2]; exact HE.out, grow_set w ⟨b, 2, none⟩ _⟩
  · have q1 : (d.left == 0) = false := by simpa using hz
    by_cases hp : 0 < d.left
    · have HB : Hid (rstepB d = true ∧ rstepD d = { d with left := d.left - 1, cnt := d.cnt + 1 }) := ⟨decide_eq_true hz, by unfold rstepD; rw [if_neg hz, if_pos hp]⟩
      have q2 : decide (0 < d.left) = true := decide_eq_true hp
      have hE1 := h.setb 1 (.int .i64 (d.left - 1)) { d with left := d.left - 1 } rfl (by dsimp only; omega) (by dsimp only; omega) h.s1 rfl
      have hE := hE1.setb 3 (.int .i64 ((d.cnt : Int) + 1)) { d with left := d.left - 1, cnt := d.cnt + 1 } rfl (by dsimp only; omega) (by dsimp only; omega) (by dsimp only; omega) rfl
      have c3' := hE1.c3
      have f3' := hE1.fr 3
      have HE := Lib.hid hE
      clear hE hE1 h hz
      go_enter Try.func49, Try.ntmps49
      go_wp2
      go_ret
      exact ⟨by rw [HB.out.1]; rfl, by rw [HB.out.2]; exact HE.out, grow_same (grow_set w ⟨b, 1, none⟩ _) (grow_set _ ⟨b, 3, none⟩ _)⟩
    · have HB : Hid (rstepB d = true ∧ rstepD d = { d with cnt := d.cnt + 1 }) := ⟨decide_eq_true hz, by unfold rstepD; rw [if_neg hz, if_neg hp]⟩
      have q2 : decide (0 < d.left) = false := decide_eq_false hp
      have hE := h.setb 3 (.int .i64 ((d.cnt : Int) + 1)) { d with cnt := d.cnt + 1 } rfl h.l0 h.l1 (by dsimp only; omega) rfl
      have HE := Lib.hid hE
      clear hE h hz
      go_enter Try.func49, Try.ntmps49
      go_wp2
      go_ret
      exact ⟨by rw [HB.out.1]; rfl, by rw [HB.out.2]; exact HE.out, grow_set w ⟨b, 3, none⟩ _⟩
/-- The file at a place that is there. -/
theorem isAt_yes {L : List Rf} {s : ByteArray} (h : isAt L s = true) : ∃ f, L[placeL L s]? = some f ∧ f.n = s ∧ placeL L s < L.length := by
  unfold isAt at h
  split at h
  · rename_i f hf
    exact ⟨f, hf, of_decide_eq_true h, (List.getElem?_eq_some_iff.1 hf).1⟩
  · cases h
def rreadR (d : Rk) (s : ByteArray) : ByteArray × Bool := if d.off = true ∨ isAt d.L s = false then (⟨#[]⟩, false) else ((d.L.getD (placeL d.L s) ⟨⟨#[]⟩, ⟨#[]⟩, ⟨#[]⟩, false⟩).l ++ (d.L.getD (placeL d.L s) ⟨⟨#[]⟩, ⟨#[]⟩, ⟨#[]⟩, false⟩).w, true)
set_option maxRecDepth 100000 in
set_option maxHeartbeats 1000000 in
theorem refRead_any (b : Nat) (v : Value) (d : Rk) (s : ByteArray) (w : World) (h : RAt w b v d) :
    Calls Try.prog 20 #[.pointer (some ⟨b, 0, none⟩), .string s] w fun e w' => e = .returned (.tuple #[.string (rreadR d s).1, .bool (rreadR d s).2]) ∧ w.grownBy w' none := by
  have HB := Lib.hid h
  have hl := h.len
  cases ho : d.off
  · cases ha : isAt d.L s
    · have HR : Hid (rreadR d s = (⟨#[]⟩, false)) := by show _ = _; unfold rreadR; rw [if_pos (.inr ha)]
      have HA := Lib.hid ha
      have HO := Lib.hid ho
      clear h ha ho
      go_enter Try.func20, Try.ntmps20
      go_wp2_with fail
      refine (At_any b v d s _ HB.out).mono ?_
      rintro e w1 ⟨rfl, g1⟩
      rw [HA.out]
      have c2 := (HB.out.keep g1).c2
      rw [HO.out] at c2
      go_wp2
      go_ret2
      exact ⟨by rw [HR.out]; rfl, g1⟩
    · obtain ⟨f, hf, _, hlt⟩ := isAt_yes ha
      have HR : Hid (rreadR d s = (f.l ++ f.w, true)) := by
        show _ = _
        unfold rreadR
        rw [if_neg (by rw [ho, ha]; simp), List.getD, hf]; rfl
      obtain ⟨k, hk⟩ : ∃ k, k = placeL d.L s := ⟨_, rfl⟩
      rw [← hk] at hf hlt
      have HK := Lib.hid hk
      have HF := Lib.hid hf
      have HA := Lib.hid ha
      have HO := Lib.hid ho
      have hsz := h.sz f (List.mem_of_getElem? hf)
      obtain ⟨p, c, rfl⟩ := h.form
      have hli : (d.L.length : Int) ≤ 1000000 := by omega
      have i0 : (0 : Int) ≤ k := by omega
      have i1 : (k : Int) < d.L.length := by omega
      clear h ha ho hk hf
      go_enter Try.func20, Try.ntmps20
      go_wp2_with fail
      refine (At_any b _ d s _ HB.out).mono ?_
      rintro e w1 ⟨rfl, g1⟩
      rw [HA.out, ← HK.out]
      have h1 := HB.out.keep g1
      have c2 := h1.c2
      have c0 := h1.c0
      rw [HO.out] at c2
      obtain ⟨g, off, rfl, hg, r0, r1, r2, r3⟩ := rf_at h1.read rfl k hlt f HF.out
      unfold Rf.sz at hsz
      have hs1 : ¬ 9223372036854775807 < f.l.size + f.w.size := by omega
      have hs2 : (f.l ++ f.w).size ≤ 9223372036854775807 := by rw [ByteArray.size_append]; omega
      clear h1 r0 r3
      go_wp2
      go_quiet (fail)
      go_wp2
      go_ret2
      exact ⟨by rw [HR.out]; rfl, grow_drawnN _ g1⟩
  · have HR : Hid (rreadR d s = (⟨#[]⟩, false)) := by show _ = _; unfold rreadR; rw [if_pos (.inl ho)]
    have HO := Lib.hid ho
    clear h ho
    go_enter Try.func20, Try.ntmps20
    go_wp2_with fail
    refine (At_any b v d s _ HB.out).mono ?_
    rintro e w1 ⟨rfl, g1⟩
    have c2 := (HB.out.keep g1).c2
    rw [HO.out] at c2
    go_wp2
    go_ret2
    exact ⟨by rw [HR.out]; rfl, g1⟩
def rfuseD (d : Rk) (n : Int) : Rk := { d with left := max n (-1) }
set_option maxRecDepth 100000 in
set_option maxHeartbeats 1000000 in
theorem refFuse_any (b : Nat) (v : Value) (d : Rk) (n : Int) (w : World) (h : RAt w b v d) (hn : n ≤ 9223372036854775807) :
    Calls Try.prog 34 #[.pointer (some ⟨b, 0, none⟩), .int .i64 n] w fun e w' => e = .returned (.tuple #[]) ∧ REnd b v (rfuseD d n) w w' := by
  have c1 := h.c1
  have f1 := h.fr 1
  have hE := h.setb 1 (.int .i64 (max n (-1))) (rfuseD d n) rfl (by show -1 ≤ max n (-1); omega) (by show max n (-1) ≤ _; omega) h.s1 rfl
  have HE := Lib.hid (REnd.of_b hE (grow_set w ⟨b, 1, none⟩ _))
  clear hE h
  go_enter Try.func34, Try.ntmps34
  go_wp2
  go_end0
  exact ⟨rfl, HE.out⟩
/-- A file is another one, with the same name. -/
def setL (d : Rk) (k : Nat) (f : Rf) : Rk := { d with L := d.L.set k f }
theorem RAt.set1 {w : World} {b g n c : Nat} {d : Rk} (h : RAt w b (.slice (some ⟨g, 0, none⟩) n c) d) (k : Nat) (hk : k < d.L.length) (f : Rf) (j : Nat) (hj : j < 4) (u : Value) (hx : f.cells = (d.L[k]).cells.set j u) (hz : f.sz ≤ 1048576) (hn : f.n = d.L[k].n) :
    RAt (w.setCell ⟨g, k * 4 + j, none⟩ u) b (.slice (some ⟨g, 0, none⟩) n c) (setL d k f) :=
  { blk := h.blk.far (fun e => h.far (by rw [e]; rfl)) u
    own := h.own.set1 Rf.len k hk f j hj u hx
    far := h.far
    len := by show (d.L.set k f).length ≤ _; rw [List.length_set]; exact h.len
    sz := fun f' hf' => by
      rcases List.mem_or_eq_of_mem_set hf' with x | x
      · exact h.sz f' x
      · rw [x]; exact hz
    nm := fun f' hf' => by
      rcases List.mem_or_eq_of_mem_set hf' with x | x
      · exact h.nm f' x
      · rw [x, hn]; exact h.nm _ (List.getElem_mem hk)
    l0 := h.l0
    l1 := h.l1
    s1 := h.s1 }
theorem REnd.of_row {w w' : World} {b g n c : Nat} {d' : Rk} (h : RAt w' b (.slice (some ⟨g, 0, none⟩) n c) d') (gr : w.grownBy w' (some g)) : REnd b (.slice (some ⟨g, 0, none⟩) n c) d' w w' :=
  ⟨_, h, Chg.of_row gr (fun i hi _ => by injection hi with hi; exact .inr (by rw [← hi]; rfl)), RKept.refl _ _⟩
theorem RAt.blkOf {w : World} {b k : Nat} {v : Value} {d : Rk} (h : RAt w b v d) (hk : k < d.L.length) : ∃ g c, v = .slice (some ⟨g, 0, none⟩) d.L.length c ∧ d.L.length ≤ c ∧ c ≤ maxLen := by
  rcases h.own.form with ⟨_, e⟩ | ⟨g, c, e, h1, h2⟩
  · rw [e] at hk; cases hk
  · exact ⟨g, c, e, h1, h2⟩
def rstepOfC (d : Rk) (s : ByteArray) : Int := if nameB s = false then 1 else if d.off = true then 50 else if isAt d.L s = false then 51 else if rstepB d = false then 50 else 0
def rsyncF (f : Rf) : Rf := ⟨f.n, f.l ++ f.w, ⟨#[]⟩, true⟩
def rstepOfD (d : Rk) (s : ByteArray) : Rk := if nameB s = false then d else if d.off = true then d else if isAt d.L s = false then d else rstepD d
def rsyncD (d : Rk) (s : ByteArray) : Rk := if rstepOfC d s = 0 then setL (rstepD d) (placeL d.L s) (rsyncF (d.L.getD (placeL d.L s) ⟨⟨#[]⟩, ⟨#[]⟩, ⟨#[]⟩, false⟩)) else rstepOfD d s
def rremoveD (d : Rk) (s : ByteArray) : Rk := if rstepOfC d s = 0 then { rstepD d with L := d.L.take (placeL d.L s) ++ d.L.drop (placeL d.L s + 1) } else rstepOfD d s
end Go.Proofs.Ytgfmmchmkfboaaa
