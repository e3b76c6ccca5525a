/- The document's drive: its files as a row; names, places, steps. -/
import Derived.Test.YtgfmmchmkfboaaaChecked
import Derived.Test.YtgfmmchmkfboaaaStD
import Derived.Test.YtgfmmchmkfboaaaRel
import Derived.Test.YtgfmmchmkfboaaaDkC
import Derived.Sort.Walk0
import Derived.Outline
namespace Go.Proofs.Ytgfmmchmkfboaaa
open Go.RowKit
set_option linter.unusedVariables false
/-- A file. -/
structure Rf where
  n : ByteArray
  l : ByteArray
  w : ByteArray
  s : Bool
def Rf.cells (f : Rf) : List Value := [.string f.n, .string f.l, .string f.w, .bool f.s]
theorem Rf.len (f : Rf) : f.cells.length = 4 := rfl
theorem Rf.ones (f : Rf) : ∀ v ∈ f.cells, v.oneCell' = true := by
  intro v hv
  simp [Rf.cells] at hv
  rcases hv with rfl | rfl | rfl | rfl <;> rfl
def Rf.sz (f : Rf) : Nat := f.l.size + f.w.size
theorem info_rf : (Try.prog.info? 66).map (fun i => (i.zero, i.size, i.bytes)) = some (some (.agg #[.string ⟨#[]⟩, .string ⟨#[]⟩, .string ⟨#[]⟩, .bool false]), 4, 56) := by kernel_rfl
/-- What a drive of the document is. -/
structure Rk where
  L : List Rf
  left : Int
  off : Bool
  cnt : Nat
structure RAt (w : World) (b : Nat) (v : Value) (d : Rk) : Prop where
  blk : Blk w b 60 [v, .int .i64 d.left, .bool d.off, .int .i64 d.cnt]
  own : OwnX Rf.cells 4 66 w v d.L
  far : v.ownBlock ≠ some b
  len : d.L.length ≤ 1000000
  sz : ∀ f ∈ d.L, f.sz ≤ 1048576
  nm : ∀ f ∈ d.L, f.n.size ≤ 80
  l0 : -1 ≤ d.left
  l1 : d.left ≤ 9223372036854775807
  s1 : d.cnt ≤ 1000000
section
variable {w w' w1 : World} {b : Nat} {v : Value} {d : Rk}
theorem RAt.lt (h : RAt w b v d) : b < w.heap.size := h.blk.lt
theorem RAt.c0 (h : RAt w b v d) : w.cell? ⟨b, 0, none⟩ = some v := h.blk.cell 0 (by simp)
theorem RAt.c1 (h : RAt w b v d) : w.cell? ⟨b, 1, none⟩ = some (.int .i64 d.left) := h.blk.cell 1 (by simp)
theorem RAt.c2 (h : RAt w b v d) : w.cell? ⟨b, 2, none⟩ = some (.bool d.off) := h.blk.cell 2 (by simp)
theorem RAt.c3 (h : RAt w b v d) : w.cell? ⟨b, 3, none⟩ = some (.int .i64 d.cnt) := h.blk.cell 3 (by simp)
theorem RAt.fr (h : RAt w b v d) (i : Nat) : w.frozen? ⟨b, i, none⟩ = false := h.blk.frozen i
theorem RAt.read (h : RAt w b v d) : ReadK Rf.cells 4 w v d.L := h.own.read Rf.len
theorem RAt.form (h : RAt w b v d) : ∃ a c, v = .slice a d.L.length c := h.read.len
theorem RAt.keep (h : RAt w b v d) (g : w.grownBy w' none) : RAt w' b v d := { h with blk := h.blk.keep g, own := h.own.keep g }
theorem RAt.drew (h : RAt w b v d) : RAt w.drew b v d := { h with blk := h.blk, own := h.own }
theorem RAt.drewN (h : RAt w b v d) (n : Nat) : RAt (w.drewN n) b v d := h.keep (grow_drawnN n (grow_refl w none))
end
/-- The blocks of a drive of the document. -/
def RS (b : Nat) (v : Value) : Nat → Prop := fun i => i = b ∨ v.ownBlock = some i
section
variable {w w' w1 : World} {b : Nat} {v : Value} {d : Rk}
theorem RAt.live (h : RAt w b v d) : ∀ i, RS b v i → i < w.heap.size := by
  rintro i (rfl | hi)
  · exact h.lt
  · exact h.own.lt hi
theorem RAt.chg {S : Nat → Prop} (h : RAt w b v d) (g : Chg S w w') (hn : ∀ i, RS b v i → ¬ S i) : RAt w' b v d :=
  { h with blk := g.blk h.blk (hn b (.inl rfl)), own := g.ownX h.own fun i hi => hn i (.inr hi) }
/-- The row is where it was, or new, or none. -/
def RKept (B : Nat) (v v' : Value) : Prop := ∀ g, v'.ownBlock = some g → v.ownBlock = some g ∨ B ≤ g
theorem RKept.refl (B : Nat) (v : Value) : RKept B v v := fun _ h => .inl h
theorem RKept.trans {B : Nat} {v v1 v2 : Value} (h : RKept B v v1) (k : RKept B v1 v2) : RKept B v v2 := by
  intro g hg
  rcases k g hg with k | k
  · exact h g k
  · exact .inr k
theorem RKept.mono {B C : Nat} {v v1 : Value} (h : RKept B v v1) (hc : C ≤ B) : RKept C v v1 := by
  intro g hg
  rcases h g hg with h | h
  · exact .inl h
  · exact .inr (Nat.le_trans hc h)
/-- Behind a call the drive is another one, and only its own blocks are other ones. -/
def REnd (b : Nat) (v : Value) (d' : Rk) (w w' : World) : Prop := ∃ v', RAt w' b v' d' ∧ Chg (RS b v) w w' ∧ RKept w.heap.size v v'
theorem REnd.same (h : RAt w b v d) (g : w.grownBy w' none) : REnd b v d w w' := ⟨v, h.keep g, Chg.of_none g, RKept.refl _ _⟩
theorem REnd.front (g : w.grownBy w1 none) (h : REnd b v d w1 w') : REnd b v d w w' := by
  obtain ⟨v', h1, h2, h3⟩ := h
  exact ⟨v', h1, (Chg.of_none g (S := RS b v)).trans h2 (fun _ _ h => h), h3.mono g.size⟩
theorem REnd.back (h : REnd b v d w w1) (g : w1.grownBy w' none) : REnd b v d w w' := by
  obtain ⟨v', h1, h2, h3⟩ := h
  exact ⟨v', h1.keep g, h2.trans (Chg.of_none g (S := RS b v)) (fun _ _ h => h), h3⟩
theorem REnd.more {d2 : Rk} (h : REnd b v d w w1) (k : ∀ v1, RAt w1 b v1 d → REnd b v1 d2 w1 w') : REnd b v d2 w w' := by
  obtain ⟨v1, h1, h2, h3⟩ := h
  obtain ⟨v2, k1, k2, k3⟩ := k v1 h1
  refine ⟨v2, k1, h2.trans k2 ?_, fun g hg => ?_⟩
  · rintro i hi (rfl | hv)
    · exact .inl rfl
    · rcases h3 i hv with x | x
      · exact .inr x
      · omega
  · rcases k3 g hg with x | x
    · exact h3 g x
    · exact .inr (Nat.le_trans h2.size x)
/-- A field of the drive is another one. -/
theorem RAt.setb (h : RAt w b v d) (i : Nat) (x : Value) (d' : Rk) (hL : d'.L = d.L) (h0 : -1 ≤ d'.left) (h1 : d'.left ≤ 9223372036854775807) (hs : d'.cnt ≤ 1000000)
    (hx : ([v, .int .i64 d.left, .bool d.off, .int .i64 d.cnt] : List Value).set i x = [v, .int .i64 d'.left, .bool d'.off, .int .i64 d'.cnt]) : RAt (w.setCell ⟨b, i, none⟩ x) b v d' :=
  ⟨by have := h.blk.set_ i x; rwa [hx] at this, by rw [hL]; exact h.own.far h.far x, h.far, by rw [hL]; exact h.len, by rw [hL]; exact h.sz, by rw [hL]; exact h.nm, h0, h1, hs⟩
theorem REnd.of_b {d' : Rk} (h : RAt w' b v d') (g : w.grownBy w' (some b)) : REnd b v d' w w' :=
  ⟨v, h, Chg.of_row g (fun i hi _ => by injection hi with hi; exact .inl hi.symm), RKept.refl _ _⟩
/-- The row is another one: it is stored. -/
theorem RAt.store {w4 : World} {v4 : Value} {d' : Rk} (h : RAt w b v d) (g4 : w.grownBy w4 none) (m4 : RKept w.heap.size v v4) (o4 : OwnX Rf.cells 4 66 w4 v4 d'.L)
    (e1 : d'.left = d.left) (e2 : d'.off = d.off) (e3 : d'.cnt = d.cnt) (hl : d'.L.length ≤ 1000000) (hz : ∀ f ∈ d'.L, f.sz ≤ 1048576) (hn : ∀ f ∈ d'.L, f.n.size ≤ 80) :
    REnd b v d' w (w4.setCell ⟨b, 0, none⟩ v4) := by
  have hf : v4.ownBlock ≠ some b := by
    intro e
    rcases m4 b e with h1 | h1
    · exact h.far h1
    · have := h.lt; omega
  refine ⟨v4, ⟨?_, o4.far (p := ⟨b, 0, none⟩) hf v4, hf, hl, hz, hn, by rw [e1]; exact h.l0, by rw [e1]; exact h.l1, by rw [e3]; exact h.s1⟩, ?_, m4⟩
  · rw [e1, e2, e3]; exact (h.blk.keep g4).set_ 0 v4
  · exact (Chg.of_none g4 (S := RS b v)).trans (Chg.of_row (grow_set w4 ⟨b, 0, none⟩ v4) (S := fun i => i = b) (fun i hi _ => by injection hi with hi; exact hi.symm)) (fun i _ hi => .inl hi)
end
theorem rf_at {w : World} {a : Option Addr} {c n : Nat} {L : List Rf} (h : ReadK Rf.cells 4 w (.slice a n c) L) (hn : L.length = n) (j : Nat) (hj : j < n) (l : Rf) (hl : L[j]? = some l) :
    ∃ g off, a = some ⟨g, off, none⟩ ∧ g < w.heap.size ∧ w.cell? ⟨g, off + j * 4, none⟩ = some (.string l.n) ∧ w.cell? ⟨g, off + j * 4 + 1, none⟩ = some (.string l.l) ∧ w.cell? ⟨g, off + j * 4 + 2, none⟩ = some (.string l.w) ∧ w.cell? ⟨g, off + j * 4 + 3, none⟩ = some (.bool l.s) := by
  obtain ⟨g, off, e, hg, hc⟩ := h.at_ Rf.len hn j hj
  exact ⟨g, off, e, hg, hc l hl 0 (by omega), hc l hl 1 (by omega), hc l hl 2 (by omega), hc l hl 3 (by omega)⟩
def noD : Rk := ⟨[], -1, false, 0⟩
set_option maxRecDepth 100000 in
theorem refNew_any (w : World) : Calls Try.prog 12 #[] w fun e w' => e = .returned (.pointer (some ⟨w.heap.size, 0, none⟩)) ∧ RAt w' w.heap.size (.slice none 0 0) noD ∧ w.grownBy w' none := by
  have hR : RAt (w.alloc (.cells #[.slice none 0 0, .int .i64 (-1), .bool false, .int .i64 0] 60)) w.heap.size (.slice none 0 0) noD :=
    ⟨Blk.new w 60 [.slice none 0 0, .int .i64 (-1), .bool false, .int .i64 0], OwnX.nil _ _, (by intro e; cases e), (by show 0 ≤ _; omega), (by intro f hf; cases hf), (by intro f hf; cases hf), (by show (-1 : Int) ≤ -1; omega), (by show (-1 : Int) ≤ _; omega), Nat.zero_le _⟩
  go_enter Try.func12, Try.ntmps12
  go_wp2
  go_ret
  exact ⟨rfl, hR, World.grownBy_alloc _ _ _⟩
set_option maxRecDepth 100000 in
set_option maxHeartbeats 1000000 in
theorem Named_any (s : ByteArray) (w : World) (hs : s.size ≤ maxLen) : Calls Try.prog 48 #[.string s] w fun e w' => e = .returned (.bool (nameB s)) ∧ w = w' := by
  have hi : (s.size : Int) ≤ 9223372036854775807 := by unfold maxLen at hs; omega
  clear hs
  go_enter Try.func48, Try.ntmps48
  go_wp2
  go_loop [3] (fun i => ∃ k : Nat, k ≤ s.size ∧ i = .int .i64 k ∧ ∀ j (h : j < s.size), j < k → okC s[j] = true) (fun i => s.size - (intOf i).toNat)
  case atStart => exact ⟨0, Nat.zero_le _, rfl, fun j h hj => absurd hj (Nat.not_lt_zero _)⟩
  case round =>
    obtain ⟨k, hk, rfl, hall⟩ := hrel
    have HALL := Lib.hid hall
    clear hall
    by_cases hlt : k < s.size
    · obtain ⟨c, hc⟩ : ∃ c, c = s[k] := ⟨_, rfl⟩
      have HC := Lib.hid hc
      have i1 : (k : Int) < s.size := by omega
      have i0 : (0 : Int) ≤ k := by omega
      have hx : (s[k].toNat : Int) = (c.toNat : Int) := by rw [hc]
      clear hc
      cases hok : okC c
      · have HF : Hid (nameB s = false) := by
          show _ = _
          unfold nameB
          have : s.data.toList.all okC = false := by
            rw [List.all_eq_false]
            exact ⟨s[k], by rw [← getb s k hlt]; exact List.getElem_mem _, by rw [← HC.out, hok]; simp⟩
          rw [this]; rfl
        unfold okC at hok
        simp only [Bool.or_eq_false_iff, Bool.and_eq_false_iff, decide_eq_false_iff_not, UInt8.not_le, UInt8.lt_iff_toNat_lt, beq_eq_false_iff_ne, ne_eq] at hok
        obtain ⟨⟨h1, h2⟩, h3⟩ := hok
        have h4 : c.toNat ≠ 46 := fun e => h3 (UInt8.toNat_inj.1 e)
        have h1' : c.toNat < 97 ∨ 122 < c.toNat := by simpa using h1
        have h2' : c.toNat < 48 ∨ 57 < c.toNat := by simpa using h2
        have d3 : ((c.toNat : Int) == 46) = false := by simp; omega
        clear h1 h2 h3
        rcases h1' with a | a <;> rcases h2' with b | b
        all_goals
          first
          | (exfalso; omega)
          | (have p1 : decide ((97 : Int) ≤ c.toNat) = false := decide_eq_false (by omega)
             have p2 : decide ((48 : Int) ≤ c.toNat) = false := decide_eq_false (by omega)
             clear a b h4
             go_wp2
             go_ret
             exact ⟨by rw [HF.out]; rfl, rfl⟩)
          | (have p1 : decide ((97 : Int) ≤ c.toNat) = false := decide_eq_false (by omega)
             have p2 : decide ((48 : Int) ≤ c.toNat) = true := decide_eq_true (by omega)
             have p3 : decide ((c.toNat : Int) ≤ 57) = false := decide_eq_false (by omega)
             clear a b h4
             go_wp2
             go_ret
             exact ⟨by rw [HF.out]; rfl, rfl⟩)
          | (have p1 : decide ((97 : Int) ≤ c.toNat) = true := decide_eq_true (by omega)
             have p2 : decide ((c.toNat : Int) ≤ 122) = false := decide_eq_false (by omega)
             have p3 : decide ((48 : Int) ≤ c.toNat) = true := decide_eq_true (by omega)
             have p4 : decide ((c.toNat : Int) ≤ 57) = false := decide_eq_false (by omega)
             clear a b h4
             go_wp2
             go_ret
             exact ⟨by rw [HF.out]; rfl, rfl⟩)
      · have HOK : Hid (okC c = true) := hok
        unfold okC at hok
        simp only [Bool.or_eq_true, Bool.and_eq_true, decide_eq_true_eq, UInt8.le_iff_toNat_le, beq_iff_eq] at hok
        have hcs : (97 ≤ c.toNat ∧ c.toNat ≤ 122) ∨ (48 ≤ c.toNat ∧ c.toNat ≤ 57) ∨ c.toNat = 46 := by
          rcases hok with (h | h) | h
          · exact .inl (by simpa using h)
          · exact .inr (.inl (by simpa using h))
          · exact .inr (.inr (by rw [h]; rfl))
        clear hok
        rcases hcs with ⟨a, b⟩ | ⟨a, b⟩ | a
        · have p1 : decide ((97 : Int) ≤ c.toNat) = true := decide_eq_true (by omega)
          have p2 : decide ((c.toNat : Int) ≤ 122) = true := decide_eq_true (by omega)
          clear a b
          go_wp2
          go_round
          case rel => exact ⟨k + 1, by omega, by go_num, fun j h hj => by
            by_cases e : j = k
            · subst e; rw [← HC.out]; exact HOK.out
            · exact HALL.out j h (by omega)⟩
          case measure => simp [intOf]; omega
        · have p1 : decide ((97 : Int) ≤ c.toNat) = false := decide_eq_false (by omega)
          have p2 : decide ((48 : Int) ≤ c.toNat) = true := decide_eq_true (by omega)
          have p3 : decide ((c.toNat : Int) ≤ 57) = true := decide_eq_true (by omega)
          clear a b
          go_wp2
          go_round
          case rel => exact ⟨k + 1, by omega, by go_num, fun j h hj => by
            by_cases e : j = k
            · subst e; rw [← HC.out]; exact HOK.out
            · exact HALL.out j h (by omega)⟩
          case measure => simp [intOf]; omega
        · have p1 : decide ((97 : Int) ≤ c.toNat) = false := decide_eq_false (by omega)
          have p2 : decide ((48 : Int) ≤ c.toNat) = false := decide_eq_false (by omega)
          have p3 : ((c.toNat : Int) == 46) = true := by simp; omega
          clear a
          go_wp2
          go_round
          case rel => exact ⟨k + 1, by omega, by go_num, fun j h hj => by
            by_cases e : j = k
            · subst e; rw [← HC.out]; exact HOK.out
            · exact HALL.out j h (by omega)⟩
          case measure => simp [intOf]; omega
    · obtain rfl : k = s.size := by omega
      have hA : s.data.toList.all okC = true := by
        rw [List.all_eq_true]
        intro x hx
        obtain ⟨j, hj, rfl⟩ := List.mem_iff_getElem.1 hx
        have hj' : j < s.size := by simpa using hj
        exact HALL.out j hj' hj'
      by_cases h0 : s.size = 0
      · have HF : Hid (nameB s = false) := by show _ = _; unfold nameB; rw [hA, decide_eq_false (by omega : ¬ s.size ≠ 0)]; rfl
        have e1 : decide ((1 : Int) ≤ (s.size : Int)) = false := decide_eq_false (by omega)
        clear hA
        go_wp2
        go_ret
        exact ⟨by rw [HF.out]; rfl, rfl⟩
      · have e1 : decide ((1 : Int) ≤ (s.size : Int)) = true := decide_eq_true (by omega)
        by_cases h80 : s.size ≤ 80
        · have HF : Hid (nameB s = true) := by show _ = _; unfold nameB; rw [hA, decide_eq_true h0, decide_eq_true h80]; rfl
          have e2 : decide ((s.size : Int) ≤ 80) = true := decide_eq_true (by omega)
          clear hA h0
          go_wp2
          go_ret
          exact ⟨by rw [HF.out]; rfl, rfl⟩
        · have HF : Hid (nameB s = false) := by show _ = _; unfold nameB; rw [hA, decide_eq_true h0, decide_eq_false h80]; rfl
          have e2 : decide ((s.size : Int) ≤ 80) = false := decide_eq_false (by omega)
          clear hA h0
          go_wp2
          go_ret
          exact ⟨by rw [HF.out]; rfl, rfl⟩
/-- Is a name below another one? -/
def ltB (a b : ByteArray) : Bool := Op.bytesLess a.toList b.toList
/-- Where a name stands, or would stand. -/
def placeL (L : List Rf) (s : ByteArray) : Nat := (L.takeWhile fun f => ltB f.n s).length
def isAt (L : List Rf) (s : ByteArray) : Bool := match L[placeL L s]? with | some f => decide (f.n = s) | none => false
theorem place_le (L : List Rf) (s : ByteArray) : placeL L s ≤ L.length := List.Sublist.length_le (List.takeWhile_sublist _)
theorem place_up {s : ByteArray} : ∀ {L : List Rf} {k : Nat}, (∀ j (h : j < L.length), j < k → ltB L[j].n s = true) → k ≤ L.length → k ≤ placeL L s
  | [], k, _, h => h
  | f :: L, 0, _, _ => Nat.zero_le _
  | f :: L, k + 1, ha, h => by
    have h0 := ha 0 (by simp) (by omega)
    have ih := place_up (s := s) (L := L) (k := k) (fun j hj hjk => ha (j + 1) (by simpa using hj) (by omega)) (by simpa using h)
    unfold placeL at ih ⊢
    rw [List.takeWhile_cons_of_pos (by simpa using h0), List.length_cons]
    omega
theorem place_stop {s : ByteArray} : ∀ {L : List Rf} {k : Nat} (h : k < L.length), ltB L[k].n s = false → placeL L s ≤ k
  | f :: L, 0, _, h0 => by
    unfold placeL
    rw [List.takeWhile_cons_of_neg (by simpa using h0)]; simp
  | f :: L, k + 1, hk, h0 => by
    have ih := place_stop (s := s) (L := L) (k := k) (by simpa using hk) (by simpa using h0)
    unfold placeL at ih ⊢
    by_cases hf : ltB f.n s = true
    · rw [List.takeWhile_cons_of_pos (by simpa using hf), List.length_cons]; omega
    · rw [List.takeWhile_cons_of_neg (by simpa using hf)]; simp
theorem beq_toList {a b : ByteArray} : (a.toList == b.toList) = decide (a = b) := by
  by_cases h : a = b
  · subst h; simp
  · rw [decide_eq_false h, beq_eq_false_iff_ne]
    intro e
    apply h
    rw [ByteArray.toList_eq, ByteArray.toList_eq] at e
    exact ByteArray.ext (Array.toList_inj.1 e)
set_option maxRecDepth 100000 in
set_option maxHeartbeats 1000000 in
theorem At_any (b : Nat) (v : Value) (d : Rk) (s : ByteArray) (w : World) (h : RAt w b v d) :
    Calls Try.prog 40 #[.pointer (some ⟨b, 0, none⟩), .string s] w fun e w' => e = .returned (.tuple #[.int .i64 (placeL d.L s), .bool (isAt d.L s)]) ∧ w.grownBy w' none := by
  have hl := h.len
  have hli : (d.L.length : Int) ≤ 1000000 := by omega
  have hr := h.read
  have HB := Lib.hid h
  obtain ⟨a, c, rfl⟩ := h.form
  have c0 := h.c0
  clear h
  go_enter Try.func40, Try.ntmps40
  go_wp2
  go_loop [6] (fun i => ∃ k : Nat, k ≤ d.L.length ∧ i = .int .i64 k ∧ ∀ j (h : j < d.L.length), j < k → ltB d.L[j].n s = true) (fun i => d.L.length - (intOf i).toNat)
  case atStart => exact ⟨0, Nat.zero_le _, rfl, fun j h hj => absurd hj (Nat.not_lt_zero _)⟩
  case round =>
    obtain ⟨k, hk, rfl, hall⟩ := hrel
    have HALL := Lib.hid hall
    clear hall
    have i0 : (0 : Int) ≤ k := by omega
    by_cases hlt : k < d.L.length
    · obtain ⟨f, hf⟩ : ∃ f, f = d.L[k] := ⟨_, rfl⟩
      have hf' : d.L[k]? = some f := by rw [hf, List.getElem?_eq_getElem]
      have HF := Lib.hid hf
      have HF' := Lib.hid hf'
      obtain ⟨g, off, rfl, hg, r0, r1, r2, r3⟩ := rf_at hr rfl k hlt f hf'
      have i1 : (k : Int) < d.L.length := by omega
      clear hf hf'
      cases hlb : ltB f.n s
      · have HP : Hid (placeL d.L s = k) := by
          have h1 := place_stop (s := s) hlt (by rw [← HF.out]; exact hlb)
          have h2 := place_up (s := s) HALL.out hk
          show _ = _
          omega
        have HA : Hid (isAt d.L s = (f.n.toList == s.toList)) := by
          show _ = _
          unfold isAt
          rw [HP.out, HF'.out, beq_toList]
        unfold ltB at hlb
        clear r1 r2 r3
        go_wp2
        go_quiet (fail)
        go_wp2
        go_ret2
        exact ⟨by rw [HP.out, HA.out]; rfl, grow_drawnN _ (grow_refl _ _)⟩
      · have HS : Hid (∀ j (h : j < d.L.length), j < k + 1 → ltB d.L[j].n s = true) := by
          intro j h hj
          by_cases e : j = k
          · subst e; rw [← HF.out]; exact hlb
          · exact HALL.out j h (by omega)
        unfold ltB at hlb
        clear r1 r2 r3
        go_wp2
        go_round
        case rel => exact ⟨k + 1, by omega, by go_num, HS.out⟩
        case measure => simp [intOf]; omega
    · obtain rfl : k = d.L.length := by omega
      have HP : Hid (placeL d.L s = d.L.length) := by
        have h2 := place_up (s := s) HALL.out hk
        have h1 := place_le d.L s
        show _ = _
        omega
      have HA : Hid (isAt d.L s = false) := by
        show _ = _
        unfold isAt
        rw [HP.out, List.getElem?_eq_none (Nat.le_refl _)]
      go_wp2
      go_quiet (fail)
      go_wp2
      go_ret2
      exact ⟨by rw [HP.out, HA.out]; rfl, grow_drawnN _ (grow_refl _ _)⟩
end Go.Proofs.Ytgfmmchmkfboaaa
