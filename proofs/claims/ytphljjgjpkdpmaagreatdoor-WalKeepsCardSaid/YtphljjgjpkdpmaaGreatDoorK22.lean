/- Several texts in one: WnNil. -/
import Derived.Test.YtphljjgjpkdpmaaGreatDoorK20
import Derived.Test.YtphljjgjpkdpmaaGreatDoorK21
/- The law WalNil: its walk. -/
namespace Go.Proofs.YtphljjgjpkdpmaaGreatDoor
open Go.RowKit
set_option linter.unusedVariables false
theorem Va.mono {B B' : Nat} {w : World} (h : Va B w) (hB : B ≤ B') : Va B' w := ⟨h.nv, h.mv, fun s k hs hk => Nat.lt_of_lt_of_le (h.lo s k hs hk) hB, Nat.lt_of_lt_of_le h.mlo hB⟩
set_option maxRecDepth 100000 in
/-- A list of one's own. -/
theorem own09_any (v : Value) (l : List ByteArray) (w : World) (hr : RowAt w v (l.map Value.string)) (hl : l.length ≤ 1000000) :
    Calls Tryz.prog 17 #[v] w fun e w' => ∃ v', e = .returned v' ∧ w'.ownsRow 0 9 1 v' l.length (l.map Value.string) ∧ NewBlk w v' ∧ w.grownBy w' none := by
  obtain ⟨i0, hi, hz0, hz1, hz2⟩ := info_parts Tryz.info04_string
  obtain ⟨a, c, rfl⟩ := hr.len
  rw [List.length_map] at hr ⊢
  have HR := Lib.hid hr
  have HL := Lib.hid hl
  clear hr hl
  go_enter Tryz.func17, Tryz.ntmps17
  go_wp2_with (at_builtin; refine wpList_append_row _ rfl _ _ 34 rfl 9 i0 (.string ⟨#[]⟩) 16 Tryz.underlying34 hi hz0 hz1 hz2 rfl _ _ _ rfl (own_empty _ _ _) _ (l.map Value.string) rfl (HR.out.kept (World.grownBy_alloc _ _ _)) (ones_str l) (by rw [List.length_map]; have := HL.out; show _ ≤ 2^63-1; omega) (by rw [List.length_map]; have := HL.out; omega) ?_)
  intro v8 w8 o8 g8 m8
  have N8 : Hid (NewBlk w v8) := by
    intro k hk
    rcases m8 with m | ⟨j, hj, m⟩
    · rw [m] at hk
      have : w.heap.size = k := by simpa [Value.ownBlock] using hk
      omega
    · rw [m] at hk
      injection hk with hk
      subst hk
      have : (w.alloc (.cells #[] 9)).heap.size = w.heap.size + 1 := by simp
      omega
  have hne : ∀ i, i < w.heap.size → some i ≠ (Value.slice (some ⟨w.heap.size, 0, none⟩) 0 0).ownBlock := fun i hi e => by
    have : i = w.heap.size := by simpa [Value.ownBlock] using e
    omega
  have G8 : Hid (w.grownBy w8 none) := ⟨g8.os, g8.tape, g8.output, Nat.le_trans (by simp) g8.size, fun i hi _ => (g8.block i (by simp; omega) (hne i hi)).trans (Below.heap_alloc w _ i hi)⟩
  have O8 : Hid (w8.ownsRow 0 9 1 v8 l.length (l.map Value.string)) := by
    show World.ownsRow _ _ _ _ _ _ _
    simpa using o8
  clear o8 g8 m8
  go_wp2
  go_ret
  exact ⟨_, rfl, O8.out, N8.out, G8.out⟩
/-- Calls of one operation that was built in place. -/
theorem one_wo (w1 : World) (kd num : Int) (lv kv : Value) (tx nm : ByteArray) : ReadK Wo.cells 6 (w1.alloc (.cells #[.int .i64 kd, lv, .string tx, .string nm, .int .i64 num, kv] 37)) (.slice (some ⟨w1.heap.size, 0, none⟩) 1 1) [⟨kd, lv, tx, nm, num, kv⟩] :=
  ReadK.one Wo.len w1 ⟨kd, lv, tx, nm, num, kv⟩ 37 1 #[.int .i64 kd, lv, .string tx, .string nm, .int .i64 num, kv] rfl
theorem wo_ok (w : World) (v : Value) (l : List ByteArray) (b : ByteArray) (hr : RowAt w v (l.map Value.string)) (hs : ∀ s ∈ l, s.size ≤ maxLen) (hl : l.length ≤ maxLen) (hb : b.size ≤ maxLen) : WoOk w ⟨0, v, b, ⟨#[]⟩, 0, .slice none 0 0⟩ l [] :=
  ⟨hr, ⟨none, 0, rfl, .inl rfl⟩, hl, hs, by simp, by simp, by simp, by simp, hb, by show 0 ≤ _; exact Nat.zero_le _⟩
set_option maxRecDepth 100000 in
set_option maxHeartbeats 4000000 in
theorem law_WalNil (v : Value) (l : List ByteArray) {w : World} (hr : RowAt w v (l.map Value.string)) (hs : ∀ s ∈ l, s.size ≤ maxLen) (hl : l.length ≤ maxLen) (b : ByteArray) (hb : b.size ≤ maxLen) (hv : Va w.heap.size w) :
    Calls Tryz.prog 7 #[v, .string b] w fun e w' => e = .returned (.bool true) ∧ Below w.heap.size w w' := by
  obtain ⟨i0, hi, hz0, hz1, hz2⟩ := info_parts Tryz.info04_string
  obtain ⟨a, c, rfl⟩ := hr.len
  rw [List.length_map] at hr ⊢
  have HV := Lib.hid hv
  have HR := Lib.hid hr
  have HS := Lib.hid hs
  have HL := Lib.hid hl
  have HB := Lib.hid hb
  clear hv hr hs hl hb
  go_enter Tryz.func7, Tryz.ntmps7
  go_wp2_with fail
  refine (awake09_any w HV.out).mono ?_
  rintro e w1 ⟨rfl, g1⟩
  have G1 := Lib.hid g1
  clear g1
  go_wp2_with fail
  have hW := Lib.hid (wo_ok _ _ l b ((HR.out.kept G1.out).kept (World.grownBy_alloc w1 (.cells #[.int .i64 0, .slice a l.length c, .string b, .string ⟨#[]⟩, .int .i64 0, .slice none 0 0] 37) none)) HS.out HL.out HB.out)
  refine (great09_any _ _ _ (one_wo w1 0 0 (.slice a l.length c) (.slice none 0 0) b ⟨#[]⟩) (by show 1 ≤ maxLen; decide) (fun o ho => ⟨l, [], by rw [List.mem_singleton] at ho; rw [ho]; exact hW.out⟩)).mono ?_
  rintro e w2 ⟨he, g2⟩
  have G2 := Lib.hid (grow_none (grow_none G1.out (World.grownBy_alloc _ _ _)) g2)
  clear g2
  rcases he with rfl | ⟨rfl, _, hsm⟩
  · go_wp2_with fail
    refine (awake09_any w2 ?_).mono ?_
    · exact (HV.out.keep G2.out).mono G2.out.size
    rintro e w3 ⟨rfl, g3⟩
    have G3 := Lib.hid (grow_none G2.out g3)
    clear g3
    go_wp2
    go_ret
    exact ⟨rfl, below_of_none G3.out⟩
  · have hll : l.length ≤ 16384 := by
      have := hsm _ (List.mem_singleton.2 rfl) l [] hW.out
      exact Nat.le_trans this.2.2 (by have := this.1; omega)
    have HLL := Lib.hid hll
    clear hsm hll
    go_wp2_with fail
    refine (Open_nil w2).mono ?_
    rintro e w3 ⟨rfl, g3⟩
    have G3 := Lib.hid (grow_none G2.out g3)
    clear g3
    go_wp2_with fail
    refine (own09_any _ l w3 (HR.out.kept G3.out) (by have := HLL.out; omega)).mono ?_
    rintro e w4 ⟨v4, rfl, o4, n4, g4⟩
    have G4 := Lib.hid (grow_none G3.out g4)
    have R4 := Lib.hid (RowAt.of_own o4)
    clear o4 n4 g4
    go_wp2_with fail
    refine (LAppend_nil _ w4).mono ?_
    rintro e w5 ⟨rfl, g5⟩
    have G5 := Lib.hid (grow_none G4.out g5)
    clear g5
    go_wp2_with fail
    refine (Lay_nil _ w5).mono ?_
    rintro e w6 ⟨rfl, g6⟩
    have G6 := Lib.hid (grow_none G5.out g6)
    clear g6
    go_wp2_with fail
    refine (Segment_nil w6).mono ?_
    rintro e w7 ⟨rfl, rfl⟩
    go_wp2
    go_ret
    exact ⟨rfl, below_of_none G6.out⟩
end Go.Proofs.YtphljjgjpkdpmaaGreatDoor
