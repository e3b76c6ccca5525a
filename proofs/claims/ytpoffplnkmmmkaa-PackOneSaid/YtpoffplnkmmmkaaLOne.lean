/- The law PackOne: its walk. -/
import Derived.Test.YtpoffplnkmmmkaaPkL
import Derived.Test.YtpoffplnkmmmkaaPkM
import Derived.Test.YtpoffplnkmmmkaaB1
namespace Go.Proofs.Ytpoffplnkmmmkaa
open Go.RowKit
set_option linter.unusedVariables false
theorem Try.info3 : (Try.prog.info? 3).map (fun i => (i.zero, i.size, i.bytes)) = some (some (.int .i64 0), 1, 8) := by kernel_rfl
theorem own_ne_rd {w : World} {size n b : Nat} {v : Value} {xs : List Value} {s : ByteArray} {bad : Bool} (h : w.ownsRow 0 3 size v n xs) (hr : Rd w b s bad) : v.ownBlock ≠ some b := by
  rcases h.2 with ⟨rfl, _⟩ | ⟨g, cap, cur, rfl, _, hh, _⟩
  · simp [Value.ownBlock]
  · intro e
    simp [Value.ownBlock] at e
    subst e
    unfold Rd at hr
    rw [hr] at hh
    injection hh with hh
    injection hh with _ ht
    cases ht
/-- What holds when at most k rounds are to come. -/
def OneRel (s : ByteArray) (w : World) (b : Nat) (k : Nat) (v : Value) (wr : World) : Prop :=
  ∃ (ns : List Int) (r : ByteArray) (bad : Bool), Rd wr b r bad ∧ wr.ownsRow 0 3 1 v ns.length (ns.map i64v) ∧ w.grownBy wr none ∧ NewBlk w v ∧
    (∀ n ∈ ns, -9223372036854775808 ≤ n ∧ n ≤ 9223372036854775807) ∧ k = (if bad then 0 else r.size + 1) ∧ ns.length ≤ s.size ∧ r.size ≤ s.size ∧
    (bad = false → s.data.toList = numsB ns ++ r.data.toList ∧ ns.length + r.size ≤ s.size)
set_option maxRecDepth 100000 in
set_option maxHeartbeats 1000000 in
theorem law_PackOne (s : ByteArray) (hs : s.size ≤ maxLen) (w : World) :
    Calls Try.prog 7 #[.string s] w fun e w' => e = .returned (.bool true) ∧ Below w.heap.size w w' := by
  obtain ⟨i0, hi, hz0, hz1, hz2⟩ := info_parts Try.info3
  have HS := Lib.hid hs
  clear hs
  by_cases hlong : 4096 < s.size
  · have hl' : (4096 : Int) < s.size := by omega
    go_enter Try.func7, Try.ntmps7
    go_wp2_with fail
    refine (awake_any _).mono ?_
    rintro e w1 ⟨rfl, g1⟩
    go_wp2_with fail
    refine (awake_any _).mono ?_
    rintro e w2 ⟨rfl, g2⟩
    have G2 := grow_none g1 g2
    clear g1 g2
    go_wp2
    go_ret
    exact ⟨rfl, below_of_none G2⟩
  · have hl' : (s.size : Int) ≤ 4096 := by omega
    have hl'' : decide ((4096 : Int) < s.size) = false := by simp; omega
    go_enter Try.func7, Try.ntmps7
    go_wp2_with fail
    refine (awake_any _).mono ?_
    rintro e w1 ⟨rfl, g1⟩
    go_wp2_with fail
    refine (Read_any _ _).mono ?_
    rintro e w2 ⟨b, rfl, r2, g2, hb⟩
    have hb0 : w.heap.size ≤ b := Nat.le_trans g1.size hb
    have G2 := grow_none g1 g2
    clear g1 g2 hb
    go_wp2_with fail
    go_loopg [3] (s.size + 1) (fun k v wr => OneRel s w b k v wr)
    case atStart => exact ⟨[], s, false, r2, World.ownsRow_nil _ _ _ _, G2, newblk_nil _, by simp, rfl, by simp, by omega, fun _ => ⟨by simp [numsB], by simp⟩⟩
    case round =>
      obtain ⟨ns, r, bad, hr, ho, hg, hn, hbd, hk, hlen, hrs, hall⟩ := hrel
      have HA := Lib.hid hall
      have HBD := Lib.hid hbd
      have HK := Lib.hid hk
      obtain ⟨av, cv, rfl⟩ := own_form ho
      have hne := own_ne_rd ho hr
      clear hall hbd hk hlong
      cases bad with
      | true =>
        go_wp2_with fail
        refine (Good_any b _ _ _ hr).mono ?_
        rintro e w3 ⟨rfl, r3, g3⟩
        have G3 := grow_new hg hb0 g3
        go_wp2_with fail
        refine (Good_any b _ _ _ r3).mono ?_
        rintro e w4 ⟨rfl, r4, g4⟩
        have G4 := grow_new G3 hb0 g4
        go_wp2
        go_ret
        exact ⟨rfl, below_of_none G4⟩
      | false =>
        have hrs2 : r.size ≤ 1000000000000000 := by omega
        obtain ⟨hs1, hs2⟩ := HA.out rfl
        have HS1 := Lib.hid hs1
        clear hs1 HA
        go_wp2_with fail
        refine (Good_any b _ _ _ hr).mono ?_
        rintro e w3 ⟨rfl, r3, g3⟩
        have G3 := grow_new hg hb0 g3
        have o3 := ho.kept g3 (.inr hne)
        clear g3 hg ho hr
        go_wp2_with fail
        refine (Left_any b _ _ _ r3 hrs2).mono ?_
        rintro e w4 ⟨rfl, r4, g4⟩
        have G4 := grow_new G3 hb0 g4
        have o4 := o3.kept g4 (.inr hne)
        clear g4 G3 o3 r3
        rw [show rLeft r false = r.size from rfl]
        by_cases h0 : r.size = 0
        · have hle : (r.size : Int) ≤ 0 := by omega
          have H0 := Lib.hid h0
          clear h0
          go_wp2_with fail
          refine (Good_any b _ _ _ r4).mono ?_
          rintro e w5 ⟨rfl, r5, g5⟩
          have G5 := grow_new G4 hb0 g5
          have o5 := o4.kept g5 (.inr hne)
          clear g5 G4 o4 r4
          go_wp2_with fail
          refine (Done_any b _ _ _ r5).mono ?_
          rintro e w6 ⟨rfl, r6, g6⟩
          have G6 := grow_new G5 hb0 g6
          have o6 := o5.kept g6 (.inr hne)
          clear g6 G5 o5 r5
          have e0 : r.data.toList = [] := List.eq_nil_of_length_eq_zero (by rw [size_toList]; exact H0.out)
          rw [show rDone r false = true from by unfold rDone; simp [ByteArray.toList_eq, e0]]
          go_wp2_with fail
          refine (Nums_any _ ns _ (RowAt.of_own o6) HBD.out (by omega)).mono ?_
          rintro e w7 ⟨rfl, g7⟩
          have G7 := grow_none G6 g7
          have es : numsB ns = s.toList := by rw [ByteArray.toList_eq, HS1.out, e0, List.append_nil]
          have HE : Hid (numsB ns = s.toList) := es
          rw [HE.out]
          clear es
          go_wp2
          go_ret
          exact ⟨rfl, below_of_none G7⟩
        · have hgt : (0 : Int) < r.size := by omega
          go_wp2_with fail
          refine (Num_any b _ _ _ r4 hrs2).mono ?_
          rintro e w5 ⟨rfl, r5, g5⟩
          rw [show rNum r false = (getN r).1 from rfl]
          rw [show rNumS r false = nextS r from rfl, show rNumB r false = nextBad r from rfl] at r5
          have G5 := grow_new G4 hb0 g5
          have o5 := o4.kept g5 (.inr hne)
          clear g5 G4 o4 r4
          have hnu := getN_used r
          have hbdn := getN_bd r
          have hnsz : (nextS r).size = r.size - (getN r).2 := by
            rw [nextS_list]; simp only [ByteArray.size, List.size_toArray, List.length_drop]; rw [size_toList]; rfl
          have HN := Lib.hid hnsz
          clear hnsz
          go_wp2_with fail
          refine (Good_any b _ _ _ r5).mono ?_
          rintro e w6 ⟨rfl, r6, g6⟩
          have G6 := grow_new G5 hb0 g6
          have o6 := o5.kept g6 (.inr hne)
          clear g6 G5 o5 r5
          rcases Nat.eq_zero_or_pos (getN r).2 with hz | hz
          · have eb : nextBad r = true := by unfold nextBad; rw [hz]; rfl
            rw [eb] at r6 ⊢
            have HZ := Lib.hid hz
            clear hz eb
            go_wp2
            go_roundg 0
            case rel => exact ⟨ns, nextS r, true, r6, o6, G6, hn, HBD.out, rfl, by omega, by rw [HN.out]; omega, by simp⟩
            case measure => rw [HK.out]; simp
          · have eb : nextBad r = false := by unfold nextBad; simp; omega
            rw [eb] at r6 ⊢
            clear eb
            obtain ⟨hs3, hs4⟩ := getN_sound (s := r) (by omega)
            have HS3 := Lib.hid hs3
            have HS4 := Lib.hid hs4
            clear hs3 hs4
            go_wp2_with (at_builtin; refine wpList_append_buf _ rfl _ _ 22 rfl 3 i0 (.int .i64 0) 1 8 Try.underlying22 hi hz0 hz1 hz2 rfl (by decide) _ _ _ rfl (o6.alloc _) ⟨w6.heap.size, 0, none⟩ 1 1 [i64v (getN r).1] rfl rfl (cells_new1 _ _ _) (one_i64 _) (by show _ ≤ 2^63-1; omega) (by omega) ?_)
            intro v' w7 o7 g7 m7
            have hnl : (ns.length : Int) + 1 ≤ s.size := by omega
            have g7' := grow_alloc _ _ g7
            have G7 := grow_newblk G6 hn g7'
            have r7 := r6.kept g7' hne
            have n7 := hn.moved G6.size (Moved_alloc m7)
            obtain ⟨av', cv', rfl⟩ := own_form o7
            go_wp2
            all_goals
              go_roundg ((nextS r).size + 1)
              case rel =>
                refine ⟨ns ++ [(getN r).1], nextS r, false, r7, ?_, G7, n7, ?_, rfl, ?_, ?_, fun _ => ⟨?_, ?_⟩⟩
                · simpa [i64v] using o7
                · intro n hmem
                  rcases List.mem_append.1 hmem with h | h
                  · exact HBD.out n h
                  · simp at h; subst h; exact hbdn
                · simp; omega
                · rw [HN.out]; omega
                · rw [HS1.out, numsB_snoc, List.append_assoc, nextS_list]; congr 1; try exact HS3.out
                · rw [HN.out]; simp; omega
              case measure => rw [HK.out, HN.out]; simp; omega
end Go.Proofs.Ytpoffplnkmmmkaa
