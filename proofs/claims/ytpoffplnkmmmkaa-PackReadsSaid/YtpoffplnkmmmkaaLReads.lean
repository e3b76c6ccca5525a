/- The law PackReads: its walk. -/
import Derived.Test.YtpoffplnkmmmkaaRfE
import Derived.Test.YtpoffplnkmmmkaaPkN
import Derived.Deep.CutBlock
import Derived.Test.YtpoffplnkmmmkaaB1
namespace Go.Proofs.Ytpoffplnkmmmkaa
open Go.RowKit
set_option linter.unusedVariables false
/-- What both readers hold. -/
def Two (wr : World) (b c : Nat) (s : ByteArray) : Prop :=
  ∃ (r : ByteArray) (p : Nat) (bad : Bool), Rd wr b r bad ∧ Rr wr c s p bad ∧ (bad = false → r = rest s p) ∧ p ≤ s.size ∧ r.size ≤ s.size
def ReadsRel (s : ByteArray) (ks : List Int) (b c : Nat) (w : World) (i : Value) (wr : World) : Prop :=
  ∃ k : Nat, k ≤ ks.length ∧ i = .int .i64 k ∧ Two wr b c s ∧ w.grownBy wr none
/-- The same, at known values. -/
def Inv (w : World) (b c : Nat) (r s : ByteArray) (p : Nat) (bad : Bool) (wr : World) : Prop := Rd wr b r bad ∧ Rr wr c s p bad ∧ w.grownBy wr none
section
variable {w wr w' : World} {b c : Nat} {r s : ByteArray} {p : Nat} {bad : Bool}
theorem Inv.rd (h : Inv w b c r s p bad wr) : Rd wr b r bad := h.1
theorem Inv.rr (h : Inv w b c r s p bad wr) : Rr wr c s p bad := h.2.1
theorem Inv.g (h : Inv w b c r s p bad wr) : w.grownBy wr none := h.2.2
theorem Inv.drewN (h : Inv w b c r s p bad wr) (n : Nat) : Inv w b c r s p bad (wr.drewN n) := ⟨h.1, h.2.1, grow_drawnN n h.2.2⟩
theorem Inv.drew (h : Inv w b c r s p bad wr) : Inv w b c r s p bad wr.drew := ⟨h.1, h.2.1, grow_drawn h.2.2⟩
theorem Inv.step (hb : w.heap.size ≤ b) (hcb : c ≠ b) (h : Inv w b c r s p bad wr) (r' : Rd w' b r bad) (g : wr.grownBy w' (some b)) : Inv w b c r s p bad w' :=
  ⟨r', h.2.1.kept g (by intro e; injection e with e; exact hcb e.symm), grow_new h.2.2 hb g⟩
theorem Inv.S (h : Inv w b c r s p bad wr) : wr.cell? ⟨c, 0, none⟩ = some (.string s) ∧ wr.cell? ⟨c, 1, none⟩ = some (.int .i64 p) ∧ wr.cell? ⟨c, 2, none⟩ = some (.bool bad) ∧ Inv w b c r s p bad wr :=
  ⟨h.rr.c0, h.rr.c1, h.rr.c2, h⟩
theorem same_num (h : bad = false → r = rest s p) : rNum r bad = rNum (rest s p) bad ∧ rNumB r bad = rNumB (rest s p) bad ∧ (rNumB r bad = false → rNumS r bad = rNumS (rest s p) bad) := by
  cases bad with
  | true => exact ⟨rfl, rfl, fun h => by cases h⟩
  | false => rw [h rfl]; exact ⟨rfl, rfl, fun _ => rfl⟩
theorem same_count (h : bad = false → r = rest s p) : rCount r bad = rCount (rest s p) bad ∧ rCountB r bad = rCountB (rest s p) bad ∧ (rCountB r bad = false → rNumS r bad = nextS (rest s p)) := by
  cases bad with
  | true => exact ⟨rfl, rfl, fun h => by cases h⟩
  | false => rw [h rfl]; exact ⟨rfl, rfl, fun _ => rfl⟩
theorem same_text (h : bad = false → r = rest s p) : rText r bad = rText (rest s p) bad ∧ rCountB r bad = rCountB (rest s p) bad ∧ (rCountB r bad = false → rTextS r bad = rTextS (rest s p) bad) := by
  cases bad with
  | true => exact ⟨rfl, rfl, fun h => by cases h⟩
  | false => rw [h rfl]; exact ⟨rfl, rfl, fun _ => rfl⟩
theorem nextS_le (r : ByteArray) : (nextS r).size ≤ r.size := by
  rw [nextS_list]; show (List.drop _ _).toArray.size ≤ _
  rw [List.size_toArray, List.length_drop, size_toList]; omega
theorem rNumS_le : (rNumS r bad).size ≤ r.size := by unfold rNumS; split; exact Nat.le_refl _; exact nextS_le r
theorem rTextS_le : (rTextS r bad).size ≤ r.size := by
  unfold rTextS; split; exact Nat.le_refl _
  have h := nextS_le r
  have : ((nextS r).extract (sizeN r) (nextS r).size).size ≤ (nextS r).size := by simp [ByteArray.size_extract]
  omega
end
theorem refRNum_any (b : Nat) (s : ByteArray) (p : Nat) (bad : Bool) (w : World) (h : Rr w b s p bad) (hp : p ≤ s.size) (hs : s.size ≤ 1000000000000000) :
    Calls Try.prog 19 #[.pointer (some ⟨b, 0, none⟩)] w fun e w' => e = .returned (.int .i64 (rNum (rest s p) bad)) ∧ (∃ p', (rNumB (rest s p) bad = false → rest s p' = rNumS (rest s p) bad) ∧ p' ≤ s.size ∧ Rr w' b s p' (rNumB (rest s p) bad)) ∧ w.grownBy w' (some b) := by
  cases bad with
  | true =>
    refine (refRNum_bad b s p w h).mono ?_
    rintro e w' ⟨rfl, rfl⟩
    exact ⟨rfl, ⟨p, fun h => (by cases h), hp, h⟩, grow_refl _ _⟩
  | false =>
    refine (refRNum_good b s p w h hp hs).mono ?_
    rintro e w' ⟨rfl, h1, g1⟩
    exact ⟨rfl, ⟨_, fun _ => (rest_next s p).symm, used_rest s p hp, h1⟩, g1⟩
theorem row_cell_u8 {w : World} {a : Option Addr} {c : Nat} {l : List Int} {k : Nat} (h : RowAt w (.slice a l.length c) (l.map (Value.int .u8))) (hk : k < l.length) :
    ∃ bb off, a = some ⟨bb, off, none⟩ ∧ w.cell? ⟨bb, off + k, none⟩ = some (.int .u8 l[k]) := by
  obtain ⟨a', c', e, h⟩ := h
  injection e with e1 e2 e3
  subst e1
  rcases h with h | ⟨b, off, rfl, hb, hc⟩
  · have : l = [] := by simpa using h
    subst this; simp at hk
  · exact ⟨b, off, rfl, by rw [hc k (by simpa using hk)]; simp [List.getElem?_eq_getElem hk]⟩
theorem rest_zero (s : ByteArray) : rest s 0 = s := by obtain ⟨⟨l⟩⟩ := s; rfl
set_option maxRecDepth 100000 in
set_option maxHeartbeats 2000000 in
theorem law_PackReads (s : ByteArray) (hs : s.size ≤ maxLen) (v1 : Value) (l : List Int) {w : World} (hr1 : RowAt w v1 (l.map (Value.int .u8))) (hw1 : ∀ x ∈ l, 0 ≤ x ∧ x ≤ 255) (hm1 : l.length ≤ maxLen) (_ : World) :
    Calls Try.prog 5 #[.string s, v1] w fun e w' => e = .returned (.bool true) ∧ Below w.heap.size w w' := by
  obtain ⟨a1, c1, rfl⟩ := hr1.len
  rw [List.length_map] at hr1 ⊢
  unfold maxLen at hs hm1
  have HW1 := Lib.hid hw1
  clear hw1
  by_cases h0 : 4096 < s.size
  · have hl' : (4096 : Int) < s.size := by omega
    go_enter Try.func5, Try.ntmps5
    go_wp2_with fail
    refine (awake_any _).mono ?_
    rintro e w1 ⟨rfl, g1⟩
    go_wp2_with fail
    refine (awake_any _).mono ?_
    rintro e w2 ⟨rfl, g2⟩
    have G2 := grow_none g1 g2
    clear g1 g2
    go_wp2
    go_ret
    exact ⟨rfl, below_of_none G2⟩
  have h0' : decide ((4096 : Int) < s.size) = false := by simp; omega
  have h0i : (s.size : Int) ≤ 4096 := by omega
  by_cases h2 : 4096 < l.length
  · have hl' : (4096 : Int) < l.length := by omega
    go_enter Try.func5, Try.ntmps5
    go_wp2_with fail
    refine (awake_any _).mono ?_
    rintro e w1 ⟨rfl, g1⟩
    go_wp2_with fail
    refine (awake_any _).mono ?_
    rintro e w2 ⟨rfl, g2⟩
    have G2 := grow_none g1 g2
    clear g1 g2
    go_wp2
    go_ret
    exact ⟨rfl, below_of_none G2⟩
  have h2' : decide ((4096 : Int) < l.length) = false := by simp; omega
  have h2i : (l.length : Int) ≤ 4096 := by omega
  go_enter Try.func5, Try.ntmps5
  go_wp2_with fail
  refine (awake_any _).mono ?_
  rintro e w1 ⟨rfl, g1⟩
  go_wp2_with fail
  refine (Read_any _ _).mono ?_
  rintro e w2 ⟨b, rfl, r2, g2, hb⟩
  have G2 := grow_none g1 g2
  have hb0 : w.heap.size ≤ b := Nat.le_trans g1.size hb
  have hbl := r2.lt
  obtain ⟨c, hc⟩ : ∃ c, c = w2.heap.size := ⟨_, rfl⟩
  have rr : Rr (w2.alloc (.cells #[.string s, .int .i64 0, .bool false] 36)) c s 0 false := by rw [hc]; exact heap_alloc_new w2 _
  have rd := r2.alloc (.cells #[.string s, .int .i64 0, .bool false] 36)
  have GG := grow_none G2 (World.grownBy_alloc w2 (.cells #[.string s, .int .i64 0, .bool false] 36) none)
  have hcb : c ≠ b := by omega
  have hc0 : w.heap.size ≤ c := by have := G2.size; omega
  have HC := Lib.hid hc
  clear g1 g2 hb r2 hbl hc
  go_wp2
  rw [← HC.out]
  go_loopw [29] (fun i wr => ReadsRel s l b c w i wr) (fun i _ => l.length - (intOf i).toNat)
  case atStart => exact ⟨0, Nat.zero_le _, rfl, ⟨s, 0, false, rd, rr, fun _ => (rest_zero s).symm, by omega, Nat.le_refl _⟩, GG⟩
  case round =>
    obtain ⟨k, hk, rfl, ⟨r, p, bad, hrd, hrr, hre, hp, hrs⟩, hg⟩ := hrel
    have HRE := Lib.hid hre
    clear rr rd GG hre
    by_cases hlt : k < l.length
    · obtain ⟨bb, off, rfl, hcell⟩ := row_cell_u8 (hr1.kept hg) hlt
      have hkb := HW1.out l[k] (List.getElem_mem hlt)
      obtain ⟨x, hx⟩ : ∃ x, x = l[k] := ⟨_, rfl⟩
      rw [← hx] at hcell hkb
      clear hx
      go_upto_block 2 with (fail)
      go_cut [34] (fun _ wc => Two wc b c s ∧ w.grownBy wc none)
      case first =>
        have hm8 : x % 8 = 0 ∨ x % 8 = 1 ∨ x % 8 = 2 ∨ x % 8 = 3 ∨ x % 8 = 4 ∨ x % 8 = 5 ∨ x % 8 = 6 ∨ x % 8 = 7 := by omega
        rcases hm8 with hm | hm | hm | hm | hm | hm | hm | hm
        · skip
          go_wp2_with fail
          refine (Num_any b _ _ _ hrd (by omega)).mono ?_
          rintro e w3 ⟨rfl, r3, g3⟩
          have rr3 := hrr.kept g3 (by intro e; injection e with e; exact hcb e.symm)
          have G3 := grow_new hg hb0 g3
          obtain ⟨e1, e2, e3⟩ := same_num HRE.out
          rw [e1]
          rw [e2] at r3
          go_wp2_with fail
          refine (refRNum_any c _ _ _ _ rr3 hp (by omega)).mono ?_
          rintro e w4 ⟨rfl, ⟨p', ep, hp', rr4⟩, g4⟩
          have rd4 := r3.kept g4 (by intro e; injection e with e; exact hcb e)
          have G4 := grow_new G3 hc0 g4
          clear g3 g4 rr3 r3 e1
          go_wp2
          go_meet
          exact ⟨⟨_, p', _, rd4, rr4, fun hb => by rw [e3 (by rw [e2]; exact hb), ep hb], hp', Nat.le_trans rNumS_le hrs⟩, G4⟩
        · skip
          go_wp2_with fail
          refine (Text_any2 b _ _ _ hrd (by omega)).mono ?_
          rintro e w3 ⟨rfl, r3, g3⟩
          have rr3 := hrr.kept g3 (by intro e; injection e with e; exact hcb e.symm)
          have G3 := grow_new hg hb0 g3
          obtain ⟨e1, e2, e3⟩ := same_text HRE.out
          rw [e1]
          rw [e2] at r3
          go_wp2_with fail
          refine (refText_any c _ _ _ _ rr3 hp (by omega)).mono ?_
          rintro e w4 ⟨rfl, ⟨p', ep, hp', rr4⟩, g4⟩
          have rd4 := r3.kept g4 (by intro e; injection e with e; exact hcb e)
          have G4 := grow_new G3 hc0 g4
          clear g3 g4 rr3 r3 e1
          go_wp2
          go_meet
          exact ⟨⟨_, p', _, rd4, rr4, fun hb => by rw [e3 (by rw [e2]; exact hb), ep hb], hp', Nat.le_trans rTextS_le hrs⟩, G4⟩
        · skip
          go_wp2_with fail
          refine (Count_any b _ _ _ hrd (by omega)).mono ?_
          rintro e w3 ⟨rfl, r3, g3⟩
          have rr3 := hrr.kept g3 (by intro e; injection e with e; exact hcb e.symm)
          have G3 := grow_new hg hb0 g3
          obtain ⟨e1, e2, e3⟩ := same_count HRE.out
          rw [e1]
          rw [e2] at r3
          go_wp2_with fail
          refine (refCount_any c _ _ _ _ rr3 hp (by omega)).mono ?_
          rintro e w4 ⟨rfl, ⟨p', ep, hp', rr4⟩, g4⟩
          have rd4 := r3.kept g4 (by intro e; injection e with e; exact hcb e)
          have G4 := grow_new G3 hc0 g4
          clear g3 g4 rr3 r3 e1
          go_wp2
          go_meet
          exact ⟨⟨_, p', _, rd4, rr4, fun hb => by rw [e3 (by rw [e2]; exact hb), ep hb], hp', Nat.le_trans rNumS_le hrs⟩, G4⟩
        · skip
          by_cases h3 : x = 3
          · have h3' : (x == 3) = true := by rw [beq_iff_eq]; exact h3
            clear h3
            go_wp2_with fail
            refine (Spoil_any b _ _ _ hrd).mono ?_
            rintro e w3 ⟨rfl, r3, g3⟩
            have rr3 := hrr.kept g3 (by intro e; injection e with e; exact hcb e.symm)
            have G3 := grow_new hg hb0 g3
            have x2 := rr3.c2
            have x3 := rr3.fr 2
            clear g3
            go_wp2
            go_meet
            exact ⟨⟨_, p, true, r3.kept (grow_set _ _ _) (by intro e; injection e with e; exact hcb e), rr3.set2 true, fun h => (by cases h), hp, hrs⟩, grow_new G3 hc0 (grow_set _ _ _)⟩
          · have h3' : (x == 3) = false := by rw [beq_eq_false_iff_ne]; exact h3
            clear h3
            go_wp2
            go_meet
            exact ⟨⟨r, p, bad, hrd, hrr, HRE.out, hp, hrs⟩, hg⟩
        · skip
          go_wp2_with fail
          refine (Num_any b _ _ _ hrd (by omega)).mono ?_
          rintro e w3 ⟨rfl, r3, g3⟩
          have rr3 := hrr.kept g3 (by intro e; injection e with e; exact hcb e.symm)
          have G3 := grow_new hg hb0 g3
          obtain ⟨e1, e2, e3⟩ := same_num HRE.out
          rw [e1]
          rw [e2] at r3
          go_wp2_with fail
          refine (refRNum_any c _ _ _ _ rr3 hp (by omega)).mono ?_
          rintro e w4 ⟨rfl, ⟨p', ep, hp', rr4⟩, g4⟩
          have rd4 := r3.kept g4 (by intro e; injection e with e; exact hcb e)
          have G4 := grow_new G3 hc0 g4
          clear g3 g4 rr3 r3 e1
          go_wp2
          go_meet
          exact ⟨⟨_, p', _, rd4, rr4, fun hb => by rw [e3 (by rw [e2]; exact hb), ep hb], hp', Nat.le_trans rNumS_le hrs⟩, G4⟩
        · skip
          go_wp2_with fail
          refine (Num_any b _ _ _ hrd (by omega)).mono ?_
          rintro e w3 ⟨rfl, r3, g3⟩
          have rr3 := hrr.kept g3 (by intro e; injection e with e; exact hcb e.symm)
          have G3 := grow_new hg hb0 g3
          obtain ⟨e1, e2, e3⟩ := same_num HRE.out
          rw [e1]
          rw [e2] at r3
          go_wp2_with fail
          refine (refRNum_any c _ _ _ _ rr3 hp (by omega)).mono ?_
          rintro e w4 ⟨rfl, ⟨p', ep, hp', rr4⟩, g4⟩
          have rd4 := r3.kept g4 (by intro e; injection e with e; exact hcb e)
          have G4 := grow_new G3 hc0 g4
          clear g3 g4 rr3 r3 e1
          go_wp2
          go_meet
          exact ⟨⟨_, p', _, rd4, rr4, fun hb => by rw [e3 (by rw [e2]; exact hb), ep hb], hp', Nat.le_trans rNumS_le hrs⟩, G4⟩
        · skip
          go_wp2_with fail
          refine (Text_any2 b _ _ _ hrd (by omega)).mono ?_
          rintro e w3 ⟨rfl, r3, g3⟩
          have rr3 := hrr.kept g3 (by intro e; injection e with e; exact hcb e.symm)
          have G3 := grow_new hg hb0 g3
          obtain ⟨e1, e2, e3⟩ := same_text HRE.out
          rw [e1]
          rw [e2] at r3
          go_wp2_with fail
          refine (refText_any c _ _ _ _ rr3 hp (by omega)).mono ?_
          rintro e w4 ⟨rfl, ⟨p', ep, hp', rr4⟩, g4⟩
          have rd4 := r3.kept g4 (by intro e; injection e with e; exact hcb e)
          have G4 := grow_new G3 hc0 g4
          clear g3 g4 rr3 r3 e1
          go_wp2
          go_meet
          exact ⟨⟨_, p', _, rd4, rr4, fun hb => by rw [e3 (by rw [e2]; exact hb), ep hb], hp', Nat.le_trans rTextS_le hrs⟩, G4⟩
        · skip
          go_wp2_with fail
          refine (Count_any b _ _ _ hrd (by omega)).mono ?_
          rintro e w3 ⟨rfl, r3, g3⟩
          have rr3 := hrr.kept g3 (by intro e; injection e with e; exact hcb e.symm)
          have G3 := grow_new hg hb0 g3
          obtain ⟨e1, e2, e3⟩ := same_count HRE.out
          rw [e1]
          rw [e2] at r3
          go_wp2_with fail
          refine (refCount_any c _ _ _ _ rr3 hp (by omega)).mono ?_
          rintro e w4 ⟨rfl, ⟨p', ep, hp', rr4⟩, g4⟩
          have rd4 := r3.kept g4 (by intro e; injection e with e; exact hcb e)
          have G4 := grow_new G3 hc0 g4
          clear g3 g4 rr3 r3 e1
          go_wp2
          go_meet
          exact ⟨⟨_, p', _, rd4, rr4, fun hb => by rw [e3 (by rw [e2]; exact hb), ep hb], hp', Nat.le_trans rNumS_le hrs⟩, G4⟩
      case rest =>
        obtain ⟨⟨r5, p5, bad5, hrd5, hrr5, hre5, hp5, hrs5⟩, hg5⟩ := hcut
        have I5 : Inv w b c r5 s p5 bad5 wc := ⟨hrd5, hrr5, hg5⟩
        have HE := Lib.hid hre5
        have hs4 : s.size ≤ 1000000000000000 := by omega
        have hr4 : r5.size ≤ 1000000000000000 := by omega
        have HS4 := Lib.hid hs4
        have HR4 := Lib.hid hr4
        clear hrd5 hrr5 hg5 hre5 hrd hrr hg HRE hp hrs hcell hs4 hr4
        cases bad5 with
        | true =>
          have HD1 : Hid (rDone r5 true = false) := rfl
          have HD2 : Hid ((!true && ((p5 : Int) == (s.size : Int))) = false) := rfl
          go_wp2_with fail
          have k0 : ∀ x : Cls (Inv w b c r5 s p5 true), x.w.cell? ⟨c, 0, none⟩ = some (.string s) := fun x => (Inv.rr x.h).c0
          have k1 : ∀ x : Cls (Inv w b c r5 s p5 true), x.w.cell? ⟨c, 1, none⟩ = some (.int .i64 p5) := fun x => (Inv.rr x.h).c1
          have k2 : ∀ x : Cls (Inv w b c r5 s p5 true), x.w.cell? ⟨c, 2, none⟩ = some (.bool true) := fun x => (Inv.rr x.h).c2
          have ne := Cls.ne I5
          refine wp_region_class (Inv w b c r5 s p5 true) (by kernel_rfl) (by kernel_rfl) (Inv.drew I5) ?_
          repeat (go_big_quiet_step ((first
              | (go_at_call 25; exact (Good_any b r5 true _ (Inv.rd (Cls.h _))).mono fun e w' ⟨he, r', g'⟩ => ⟨he, ⟨_, Inv.step hb0 hcb (Cls.h _) r' g'⟩, rfl⟩)
              | (go_at_call 26; exact (Done_any b r5 true _ (Inv.rd (Cls.h _))).mono fun e w' ⟨he, r', g'⟩ => ⟨by rw [he, HD1.out], ⟨_, Inv.step hb0 hcb (Cls.h _) r' g'⟩, rfl⟩)
              | (go_at_call 27; exact (refDone_any c s p5 true _ (Inv.rr (Cls.h _)) HS4.out).mono fun e w' ⟨he, nd, hw⟩ => ⟨by rw [he, HD2.out], ⟨w', by rw [hw]; exact Inv.drewN (Cls.h _) nd⟩, rfl⟩))))
          refine wpQuiet_nil ?_
          rintro _ ⟨xx, rfl⟩
          clear k0 k1 k2
          go_wp2
          go_roundw
          case rel => exact ⟨k + 1, by omega, by go_num, ⟨r5, p5, _, Inv.rd xx.h, Inv.rr xx.h, (fun h => by first | exact HE.out h | exact HE.out trivial), hp5, hrs5⟩, Inv.g xx.h⟩
          case measure => simp [intOf]; omega
        | false =>
          have her : r5 = rest s p5 := HE.out rfl
          obtain ⟨D, hD⟩ : ∃ D, D = ((p5 : Int) == (s.size : Int)) := ⟨_, rfl⟩
          have HD2 : Hid ((!false && ((p5 : Int) == (s.size : Int))) = D) := by show _ = _; rw [hD]; rfl
          have HD1 : Hid (rDone r5 false = D) := by
            show r5.toList.isEmpty = D
            rw [hD, her, ByteArray.toList_eq, Bool.eq_iff_iff, List.isEmpty_iff, beq_iff_eq]
            constructor
            · intro h
              have h2 : (rest s p5).data.toList.length = 0 := by rw [h]; rfl
              rw [size_toList, rest_size] at h2
              omega
            · intro h
              apply List.eq_nil_of_length_eq_zero
              rw [size_toList, rest_size]
              omega
          obtain ⟨L, hL⟩ : ∃ L, L = r5.size := ⟨_, rfl⟩
          have HL1 : Hid (rLeft r5 false = L) := by show r5.size = L; rw [hL]
          have hsub : (s.size : Int) - (p5 : Int) = (L : Int) := by rw [hL, her, rest_size]; omega
          have hLb : (L : Int) ≤ 4096 := by rw [hL]; omega
          have hsub2 : IntKind.i64.wrap ((s.size : Int) - (p5 : Int)) = (L : Int) := by rw [hsub, IntWalk.i64_in _ (by omega)]
          clear her hD hL
          go_wp2_with fail
          have k0 : ∀ x : Cls (Inv w b c r5 s p5 false), x.w.cell? ⟨c, 0, none⟩ = some (.string s) := fun x => (Inv.rr x.h).c0
          have k1 : ∀ x : Cls (Inv w b c r5 s p5 false), x.w.cell? ⟨c, 1, none⟩ = some (.int .i64 p5) := fun x => (Inv.rr x.h).c1
          have k2 : ∀ x : Cls (Inv w b c r5 s p5 false), x.w.cell? ⟨c, 2, none⟩ = some (.bool false) := fun x => (Inv.rr x.h).c2
          have ne := Cls.ne I5
          refine wp_region_class (Inv w b c r5 s p5 false) (by kernel_rfl) (by kernel_rfl) (Inv.drew I5) ?_
          repeat (go_big_quiet_step ((first
              | (go_at_call 25; exact (Good_any b r5 false _ (Inv.rd (Cls.h _))).mono fun e w' ⟨he, r', g'⟩ => ⟨he, ⟨_, Inv.step hb0 hcb (Cls.h _) r' g'⟩, rfl⟩)
              | (go_at_call 26; exact (Done_any b r5 false _ (Inv.rd (Cls.h _))).mono fun e w' ⟨he, r', g'⟩ => ⟨by rw [he, HD1.out], ⟨_, Inv.step hb0 hcb (Cls.h _) r' g'⟩, rfl⟩)
              | (go_at_call 28; exact (Left_any b r5 false _ (Inv.rd (Cls.h _)) HR4.out).mono fun e w' ⟨he, r', g'⟩ => ⟨by rw [he, HL1.out], ⟨_, Inv.step hb0 hcb (Cls.h _) r' g'⟩, rfl⟩)
              | (go_at_call 27; exact (refDone_any c s p5 false _ (Inv.rr (Cls.h _)) HS4.out).mono fun e w' ⟨he, nd, hw⟩ => ⟨by rw [he, HD2.out], ⟨w', by rw [hw]; exact Inv.drewN (Cls.h _) nd⟩, rfl⟩))))
          refine wpQuiet_nil ?_
          rintro _ ⟨xx, rfl⟩
          clear k0 k1 k2
          go_wp2
          go_roundw
          case rel => exact ⟨k + 1, by omega, by go_num, ⟨r5, p5, _, Inv.rd xx.h, Inv.rr xx.h, (fun h => by first | exact HE.out h | exact HE.out trivial), hp5, hrs5⟩, Inv.g xx.h⟩
          case measure => simp [intOf]; omega
    · obtain rfl : k = l.length := by omega
      clear hrd hrr HRE hp hrs
      go_wp2
      go_ret
      exact ⟨rfl, below_of_none hg⟩
end Go.Proofs.Ytpoffplnkmmmkaa
