/- Stage 6: letters in rows; what the package post reads. -/
import Derived.Test.YtpmfgjhkdokcbaaChecked
import Derived.Test.YtpmfgjhkdokcbaaStA
import Derived.Test.YtpmfgjhkdokcbaaRel
import Derived.Outline
namespace Go.Proofs.Ytpmfgjhkdokcbaa
open Go.RowKit
set_option linter.unusedVariables false
/-- A letter. -/
structure Lt where
  f : Int
  t : Int
  d : ByteArray
def Lt.cells (l : Lt) : List Value := [.int .i64 l.f, .int .i64 l.t, .string l.d]
def Lt.val (l : Lt) : Value := .agg #[.int .i64 l.f, .int .i64 l.t, .string l.d]
theorem Lt.len (l : Lt) : l.cells.length = 3 := rfl
theorem Lt.ones (l : Lt) : ∀ v ∈ l.cells, v.oneCell' = true := by
  intro v hv
  simp [Lt.cells] at hv
  rcases hv with rfl | rfl | rfl <;> rfl
/-- A post (the package's, or the document's: they are laid out alike) lies in block b, with the row v. -/
structure PAt (t : TypeId) (w : World) (b : Nat) (v : Value) (L : List Lt) (m : Nat) : Prop where
  blk : Blk w b t [v, .int .i64 m]
  own : OwnK Lt.cells 3 33 w v L
  far : v.ownBlock ≠ some b
  len : L.length ≤ m
  most : m ≤ 512
section
variable {t : TypeId} {w w' : World} {b : Nat} {v : Value} {L : List Lt} {m : Nat}
theorem PAt.lt (h : PAt t w b v L m) : b < w.heap.size := h.blk.lt
theorem PAt.form (h : PAt t w b v L m) : ∃ a c, v = .slice a L.length c := h.own.read.len
theorem PAt.c0 (h : PAt t w b v L m) : w.cell? ⟨b, 0, none⟩ = some v := h.blk.cell 0 (by simp)
theorem PAt.c1 (h : PAt t w b v L m) : w.cell? ⟨b, 1, none⟩ = some (.int .i64 m) := h.blk.cell 1 (by simp)
theorem PAt.fr (h : PAt t w b v L m) (i : Nat) : w.frozen? ⟨b, i, none⟩ = false := h.blk.frozen i
theorem PAt.keep (h : PAt t w b v L m) (g : w.grownBy w' none) : PAt t w' b v L m := ⟨h.blk.keep g, h.own.keep g, h.far, h.len, h.most⟩
theorem PAt.drew (h : PAt t w b v L m) : PAt t w.drew b v L m := ⟨h.blk, h.own, h.far, h.len, h.most⟩
theorem PAt.drewN (h : PAt t w b v L m) (n : Nat) : PAt t (w.drewN n) b v L m := h.keep (grow_drawnN n (grow_refl w none))
theorem PAt.chg {S : Nat → Prop} (h : PAt t w b v L m) (g : Chg S w w') (h1 : ¬ S b) (h2 : ∀ g, v.ownBlock = some g → ¬ S g) : PAt t w' b v L m := ⟨g.blk h.blk h1, g.ownK h.own h2, h.far, h.len, h.most⟩
end
/-- The blocks of a post. -/
def PS (b : Nat) (v : Value) : Nat → Prop := fun i => i = b ∨ v.ownBlock = some i
set_option maxRecDepth 100000 in
theorem count_any (t : TypeId) (b : Nat) (v : Value) (L : List Lt) (m : Nat) (w : World) (h : PAt t w b v L m) :
    Calls Try.prog 26 #[.pointer (some ⟨b, 0, none⟩)] w fun e w' => e = .returned (.int .i64 L.length) ∧ w = w' := by
  obtain ⟨a, c, rfl⟩ := h.form
  have c0 := h.c0
  go_enter Try.func26, Try.ntmps26
  go_wp2
  go_ret
  exact ⟨rfl, rfl⟩
def kthB (k : Int) (n : Nat) : Bool := decide (0 ≤ k ∧ k < n)
set_option maxRecDepth 100000 in
theorem kth_any (t : TypeId) (b : Nat) (v : Value) (L : List Lt) (m : Nat) (k : Int) (w : World) (h : PAt t w b v L m) :
    Calls Try.prog 28 #[.pointer (some ⟨b, 0, none⟩), .int .i64 k] w fun e w' => e = .returned (.bool (kthB k L.length)) ∧ w = w' := by
  obtain ⟨a, c, rfl⟩ := h.form
  have c0 := h.c0
  have hn := h.len
  have hm := h.most
  have hni : (L.length : Int) ≤ 512 := by omega
  by_cases h0 : 0 ≤ k
  · have d1 : decide (0 ≤ k) = true := decide_eq_true h0
    by_cases h1 : k < L.length
    · have HB : Hid (kthB k L.length = true) := by show _ = _; unfold kthB; exact decide_eq_true ⟨h0, h1⟩
      have d2 : decide (k < (L.length : Int)) = true := decide_eq_true h1
      go_enter Try.func28, Try.ntmps28
      go_wp2
      go_ret
      exact ⟨by rw [HB.out]; rfl, rfl⟩
    · have HB : Hid (kthB k L.length = false) := by show _ = _; unfold kthB; exact decide_eq_false (fun x => h1 x.2)
      have d2 : decide (k < (L.length : Int)) = false := decide_eq_false h1
      go_enter Try.func28, Try.ntmps28
      go_wp2
      go_ret
      exact ⟨by rw [HB.out]; rfl, rfl⟩
  · have HB : Hid (kthB k L.length = false) := by show _ = _; unfold kthB; exact decide_eq_false (fun x => h0 x.1)
    have d1 : decide (0 ≤ k) = false := decide_eq_false h0
    go_enter Try.func28, Try.ntmps28
    go_wp2
    go_ret
    exact ⟨by rw [HB.out]; rfl, rfl⟩
/-- The k-th letter, or an empty one. -/
def atL (L : List Lt) (k : Int) : Lt := if kthB k L.length then L.getD k.toNat ⟨0, 0, ⟨#[]⟩⟩ else ⟨0, 0, ⟨#[]⟩⟩
theorem kthB_nat {k : Int} {n : Nat} (h : kthB k n = true) : ∃ j : Nat, k = (j : Int) ∧ j < n := by
  unfold kthB at h
  have := of_decide_eq_true h
  exact ⟨k.toNat, by omega, by omega⟩
theorem atL_yes {L : List Lt} {j : Nat} (h : j < L.length) : kthB (j : Int) L.length = true ∧ atL L j = L[j] := by
  have hk : kthB (j : Int) L.length = true := by unfold kthB; exact decide_eq_true (by omega)
  refine ⟨hk, ?_⟩
  unfold atL
  rw [if_pos hk, Int.toNat_natCast, List.getD, List.getElem?_eq_getElem h]; rfl
theorem atL_no {L : List Lt} {k : Int} (h : kthB k L.length = false) : atL L k = ⟨0, 0, ⟨#[]⟩⟩ := by
  unfold atL; rw [h]; rfl
theorem lt_at {w : World} {a : Option Addr} {c n : Nat} {L : List Lt} (h : ReadK Lt.cells 3 w (.slice a n c) L) (hn : L.length = n) (j : Nat) (hj : j < n) (l : Lt) (hl : L[j]? = some l) :
    ∃ g off, a = some ⟨g, off, none⟩ ∧ g < w.heap.size ∧ w.cell? ⟨g, off + j * 3, none⟩ = some (.int .i64 l.f) ∧ w.cell? ⟨g, off + j * 3 + 1, none⟩ = some (.int .i64 l.t) ∧ w.cell? ⟨g, off + j * 3 + 2, none⟩ = some (.string l.d) := by
  obtain ⟨g, off, e, hg, hc⟩ := h.at_ Lt.len hn j hj
  exact ⟨g, off, e, hg, hc l hl 0 (by omega), hc l hl 1 (by omega), hc l hl 2 (by omega)⟩
set_option maxRecDepth 100000 in
theorem At_any (t : TypeId) (b : Nat) (v : Value) (L : List Lt) (m : Nat) (k : Int) (w : World) (h : PAt t w b v L m) :
    Calls Try.prog 17 #[.pointer (some ⟨b, 0, none⟩), .int .i64 k] w fun e w' => e = .returned (.tuple #[(atL L k).val, .bool (kthB k L.length)]) ∧ w.grownBy w' none := by
  obtain ⟨a, c, rfl⟩ := h.form
  have c0 := h.c0
  have hb := h.lt
  rcases hkb : kthB k L.length with _ | _
  · have HK := Lib.hid hkb
    have HA := Lib.hid (atL_no hkb)
    clear hkb
    go_enter Try.func17, Try.ntmps17
    go_wp2_with fail
    refine (kth_any t b _ L m k _ (h.keep (World.grownBy_alloc _ _ _))).mono ?_
    rintro e w1 ⟨rfl, rfl⟩
    rw [HK.out]
    go_wp2
    refine bodyPost_ret (v := .tuple #[Lt.val ⟨0, 0, ⟨#[]⟩⟩, .bool false]) ?_ ?_ ?_
    · simp [results, go_sem, Lt.val]
    · rfl
    · exact ⟨by rw [HA.out], World.grownBy_alloc _ _ _⟩
  · obtain ⟨j, rfl, hj⟩ := kthB_nat hkb
    have HK := Lib.hid hkb
    have HA := Lib.hid (atL_yes hj).2
    obtain ⟨l, hl⟩ : ∃ l, l = L[j] := ⟨_, rfl⟩
    rw [← hl] at HA
    obtain ⟨g, off, rfl, hg, r0, r1, r2⟩ := lt_at h.own.read rfl j hj l (by rw [hl, List.getElem?_eq_getElem])
    have i1 : (j : Int) < L.length := by omega
    have i0 : (0 : Int) ≤ j := by omega
    clear hkb hl
    go_enter Try.func17, Try.ntmps17
    go_wp2_with fail
    refine (kth_any t b _ L m j _ (h.keep (World.grownBy_alloc _ _ _))).mono ?_
    rintro e w1 ⟨rfl, rfl⟩
    rw [HK.out]
    go_wp2
    refine bodyPost_ret (v := .tuple #[l.val, .bool true]) ?_ ?_ ?_
    · simp [results, go_sem, Lt.val]
    · rfl
    · exact ⟨by rw [HA.out], World.grownBy_alloc _ _ _⟩
set_option maxRecDepth 100000 in
theorem At_nil (k : Int) (w : World) : Calls Try.prog 17 #[.pointer none, .int .i64 k] w fun e w' => e = .returned (.tuple #[Lt.val ⟨0, 0, ⟨#[]⟩⟩, .bool false]) ∧ w.grownBy w' none := by
  go_enter Try.func17, Try.ntmps17
  go_wp2
  refine bodyPost_ret (v := .tuple #[Lt.val ⟨0, 0, ⟨#[]⟩⟩, .bool false]) ?_ ?_ ?_
  · simp [results, go_sem, Lt.val]
  · rfl
  · exact ⟨rfl, World.grownBy_alloc _ _ _⟩
set_option maxRecDepth 100000 in
theorem Len_any (t : TypeId) (b : Nat) (v : Value) (L : List Lt) (m : Nat) (w : World) (h : PAt t w b v L m) :
    Calls Try.prog 15 #[.pointer (some ⟨b, 0, none⟩)] w fun e w' => e = .returned (.int .i64 L.length) ∧ w = w' := by
  go_enter Try.func15, Try.ntmps15
  go_wp2_with fail
  refine (count_any t b v L m _ h).mono ?_
  rintro e w1 ⟨rfl, rfl⟩
  go_wp2
  go_ret
  exact ⟨rfl, rfl⟩
set_option maxRecDepth 100000 in
theorem Len_nil (w : World) : Calls Try.prog 15 #[.pointer none] w fun e w' => e = .returned (.int .i64 0) ∧ w = w' := by
  go_enter Try.func15, Try.ntmps15
  go_wp2
  go_ret
  exact ⟨rfl, rfl⟩
def nodeB (n : Int) : Bool := decide (0 ≤ n ∧ n ≤ 6)
set_option maxRecDepth 100000 in
theorem isNode_any (n : Int) (w : World) : Calls Try.prog 25 #[.int .i64 n] w fun e w' => e = .returned (.bool (nodeB n)) ∧ w = w' := by
  by_cases h0 : 0 ≤ n
  · have d1 : decide (0 ≤ n) = true := decide_eq_true h0
    by_cases h1 : n ≤ 6
    · have HB : Hid (nodeB n = true) := by show _ = _; unfold nodeB; exact decide_eq_true ⟨h0, h1⟩
      have d2 : decide (n ≤ 6) = true := decide_eq_true h1
      go_enter Try.func25, Try.ntmps25
      go_wp2
      go_ret
      exact ⟨by rw [HB.out]; rfl, rfl⟩
    · have HB : Hid (nodeB n = false) := by show _ = _; unfold nodeB; exact decide_eq_false (fun x => h1 x.2)
      have d2 : decide (n ≤ 6) = false := decide_eq_false h1
      go_enter Try.func25, Try.ntmps25
      go_wp2
      go_ret
      exact ⟨by rw [HB.out]; rfl, rfl⟩
  · have HB : Hid (nodeB n = false) := by show _ = _; unfold nodeB; exact decide_eq_false (fun x => h0 x.1)
    have d1 : decide (0 ≤ n) = false := decide_eq_false h0
    go_enter Try.func25, Try.ntmps25
    go_wp2
    go_ret
    exact ⟨by rw [HB.out]; rfl, rfl⟩
def mostB (m : Int) : Bool := decide (1 ≤ m ∧ m ≤ 512)
theorem PAt.new (t : TypeId) (w : World) (m : Nat) (hm : m ≤ 512) : PAt t (w.alloc (.cells #[.slice none 0 0, .int .i64 (m : Int)] t)) w.heap.size (.slice none 0 0) [] m :=
  ⟨Blk.new w t [.slice none 0 0, .int .i64 (m : Int)], OwnK.nil _ _, (by intro e; cases e), Nat.zero_le _, hm⟩
def NewR (t : TypeId) (m : Int) (w : World) (e : Ending) (w' : World) : Prop :=
  (mostB m = true ∧ e = .returned (.tuple #[.pointer (some ⟨w.heap.size, 0, none⟩), .int .i64 0]) ∧ PAt t w' w.heap.size (.slice none 0 0) [] m.toNat ∧ w.grownBy w' none) ∨
  (mostB m = false ∧ e = .returned (.tuple #[.pointer none, .int .i64 1]) ∧ w.grownBy w' none)
set_option maxRecDepth 100000 in
theorem New_any (m : Int) (w : World) : Calls Try.prog 7 #[.int .i64 m] w (NewR 58 m w) := by
  by_cases h0 : m < 1
  · have HB : Hid (mostB m = false) := by show _ = _; unfold mostB; exact decide_eq_false (by omega)
    have d1 : decide (m < 1) = true := decide_eq_true h0
    clear h0
    go_enter Try.func7, Try.ntmps7
    go_wp2
    go_ret2
    exact .inr ⟨HB.out, rfl, grow_refl _ _⟩
  · by_cases h1 : 512 < m
    · have HB : Hid (mostB m = false) := by show _ = _; unfold mostB; exact decide_eq_false (by omega)
      have d1 : decide (m < 1) = false := decide_eq_false h0
      have d2 : decide (512 < m) = true := decide_eq_true h1
      clear h0 h1
      go_enter Try.func7, Try.ntmps7
      go_wp2
      go_ret2
      exact .inr ⟨HB.out, rfl, grow_refl _ _⟩
    · have HB : Hid (mostB m = true) := by show _ = _; unfold mostB; exact decide_eq_true (by omega)
      obtain ⟨n, rfl⟩ : ∃ n : Nat, m = (n : Int) := ⟨m.toNat, by omega⟩
      have d1 : decide ((n : Int) < 1) = false := decide_eq_false h0
      have d2 : decide (512 < (n : Int)) = false := decide_eq_false h1
      have hn : n ≤ 512 := by omega
      clear h0 h1
      go_enter Try.func7, Try.ntmps7
      go_wp2
      go_ret2
      exact .inl ⟨HB.out, rfl, by simpa using PAt.new 58 w n hn, World.grownBy_alloc _ _ _⟩
set_option maxRecDepth 100000 in
theorem refNew_any (m : Int) (w : World) : Calls Try.prog 8 #[.int .i64 m] w (NewR 48 m w) := by
  by_cases h0 : m < 1
  · have HB : Hid (mostB m = false) := by show _ = _; unfold mostB; exact decide_eq_false (by omega)
    have d1 : decide (m < 1) = true := decide_eq_true h0
    clear h0
    go_enter Try.func8, Try.ntmps8
    go_wp2
    go_ret2
    exact .inr ⟨HB.out, rfl, grow_refl _ _⟩
  · by_cases h1 : 512 < m
    · have HB : Hid (mostB m = false) := by show _ = _; unfold mostB; exact decide_eq_false (by omega)
      have d1 : decide (m < 1) = false := decide_eq_false h0
      have d2 : decide (512 < m) = true := decide_eq_true h1
      clear h0 h1
      go_enter Try.func8, Try.ntmps8
      go_wp2
      go_ret2
      exact .inr ⟨HB.out, rfl, grow_refl _ _⟩
    · have HB : Hid (mostB m = true) := by show _ = _; unfold mostB; exact decide_eq_true (by omega)
      obtain ⟨n, rfl⟩ : ∃ n : Nat, m = (n : Int) := ⟨m.toNat, by omega⟩
      have d1 : decide ((n : Int) < 1) = false := decide_eq_false h0
      have d2 : decide (512 < (n : Int)) = false := decide_eq_false h1
      have hn : n ≤ 512 := by omega
      clear h0 h1
      go_enter Try.func8, Try.ntmps8
      go_wp2
      go_ret2
      exact .inl ⟨HB.out, rfl, by simpa using PAt.new 48 w n hn, World.grownBy_alloc _ _ _⟩
end Go.Proofs.Ytpmfgjhkdokcbaa
