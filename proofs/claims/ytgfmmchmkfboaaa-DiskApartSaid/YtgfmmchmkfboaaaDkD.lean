/- Stage 5: a drive, whole; its steps. -/
import Derived.Test.YtgfmmchmkfboaaaDkC
namespace Go.Proofs.Ytgfmmchmkfboaaa
open Go.RowKit
set_option linter.unusedVariables false
/-- What a drive is: its files, its fuse, is it down, how many steps were done. -/
structure Dk where
  F : ByteArray → Option Ent
  lit : Bool
  fuse : Nat
  down : Bool
  steps : Nat
/-- The drive lies in block b, its map in block mb, with at most n names, in the blocks G. -/
structure DAt (w : World) (b mb n : Nat) (G : ByteArray → Option Nat) (d : Dk) : Prop where
  blk : Blk w b 57 [.map (some mb), .bool d.lit, .int .i64 d.fuse, .bool d.down, .int .i64 d.steps]
  map : MapG w mb n G
  ent : ∀ s g, G s = some g → ∃ e, d.F s = some e ∧ FB w g e ∧ e.sz ≤ 1048576
  non : ∀ s, G s = none → d.F s = none
  inj : ∀ s t g, G s = some g → G t = some g → s = t
  far : ∀ s g, G s = some g → g ≠ b ∧ g ≠ mb
  ne : b ≠ mb
  n1 : n ≤ 1000000
  f1 : d.fuse ≤ 9223372036854775807
  s1 : d.steps ≤ 1000000
/-- The blocks of a drive. -/
def DS (b mb : Nat) (G : ByteArray → Option Nat) : Nat → Prop := fun i => i = b ∨ i = mb ∨ ∃ s, G s = some i
section
variable {w w' : World} {b mb n : Nat} {G : ByteArray → Option Nat} {d : Dk}
theorem DAt.lt (h : DAt w b mb n G d) : b < w.heap.size := h.blk.lt
theorem DAt.c0 (h : DAt w b mb n G d) : w.cell? ⟨b, 0, none⟩ = some (.map (some mb)) := h.blk.cell 0 (by simp)
theorem DAt.c1 (h : DAt w b mb n G d) : w.cell? ⟨b, 1, none⟩ = some (.bool d.lit) := h.blk.cell 1 (by simp)
theorem DAt.c2 (h : DAt w b mb n G d) : w.cell? ⟨b, 2, none⟩ = some (.int .i64 d.fuse) := h.blk.cell 2 (by simp)
theorem DAt.c3 (h : DAt w b mb n G d) : w.cell? ⟨b, 3, none⟩ = some (.bool d.down) := h.blk.cell 3 (by simp)
theorem DAt.c4 (h : DAt w b mb n G d) : w.cell? ⟨b, 4, none⟩ = some (.int .i64 d.steps) := h.blk.cell 4 (by simp)
theorem DAt.fr (h : DAt w b mb n G d) (i : Nat) : w.frozen? ⟨b, i, none⟩ = false := h.blk.frozen i
theorem DAt.chg {S : Nat → Prop} (h : DAt w b mb n G d) (g : Chg S w w') (hn : ∀ i, DS b mb G i → ¬ S i) : DAt w' b mb n G d :=
  ⟨g.blk h.blk (hn b (.inl rfl)), h.map.chg g (hn mb (.inr (.inl rfl))), fun s x hx => by
    obtain ⟨e, h1, h2, h3⟩ := h.ent s x hx
    exact ⟨e, h1, g.blk h2 (hn x (.inr (.inr ⟨s, hx⟩))), h3⟩, h.non, h.inj, h.far, h.ne, h.n1, h.f1, h.s1⟩
theorem DAt.keep (h : DAt w b mb n G d) (g : w.grownBy w' none) : DAt w' b mb n G d := h.chg (Chg.of_none (S := fun _ => False) g) (fun _ _ h => h)
theorem DAt.live (h : DAt w b mb n G d) : ∀ i, DS b mb G i → i < w.heap.size := by
  rintro i (rfl | rfl | ⟨s, hs⟩)
  · exact h.lt
  · exact h.map.lt
  · obtain ⟨e, _, h2, _⟩ := h.ent s i hs
    exact Blk.lt h2
end
/-- Behind a call the drive is d', and only its own blocks are other ones. -/
def DEnd (b mb : Nat) (G : ByteArray → Option Nat) (n' : Nat) (d' : Dk) (w w' : World) : Prop := ∃ G', DAt w' b mb n' G' d' ∧ Chg (DS b mb G) w w' ∧ ∀ s g, G' s = some g → (∃ t, G t = some g) ∨ w.heap.size ≤ g
section
variable {w w1 w' : World} {b mb n : Nat} {G : ByteArray → Option Nat} {d : Dk}
theorem DEnd.same (h : DAt w b mb n G d) (g : w.grownBy w' none) : DEnd b mb G n d w w' := ⟨G, h.keep g, Chg.of_none g, fun s x hx => .inl ⟨s, hx⟩⟩
theorem DEnd.front (g : w.grownBy w1 none) (h : DEnd b mb G n d w1 w') : DEnd b mb G n d w w' := by
  obtain ⟨G', h1, h2, h3⟩ := h
  refine ⟨G', h1, (Chg.of_none g (S := DS b mb G)).trans h2 (fun _ _ h => h), fun s x hx => ?_⟩
  rcases h3 s x hx with y | y
  · exact .inl y
  · exact .inr (Nat.le_trans g.size y)
theorem DEnd.back (h : DEnd b mb G n d w w1) (g : w1.grownBy w' none) : DEnd b mb G n d w w' := by
  obtain ⟨G', h1, h2, h3⟩ := h
  exact ⟨G', h1.keep g, h2.trans (Chg.of_none g (S := DS b mb G)) (fun _ _ h => h), h3⟩
theorem DEnd.more {n1 n2 : Nat} {d1 d2 : Dk} (h : DEnd b mb G n1 d1 w w1) (k : ∀ G', DAt w1 b mb n1 G' d1 → DEnd b mb G' n2 d2 w1 w') : DEnd b mb G n2 d2 w w' := by
  obtain ⟨G1, h1, h2, h3⟩ := h
  obtain ⟨G2, k1, k2, k3⟩ := k G1 h1
  refine ⟨G2, k1, h2.trans k2 (fun i hi hs => ?_), fun s x hx => ?_⟩
  · rcases hs with y | y | ⟨t, y⟩
    · exact .inl y
    · exact .inr (.inl y)
    · rcases h3 t i y with z | z
      · exact .inr (.inr z)
      · omega
  · rcases k3 s x hx with ⟨t, y⟩ | y
    · exact h3 t x y
    · exact .inr (Nat.le_trans h2.size y)
theorem DEnd.after {G1 : ByteArray → Option Nat} {n2 : Nat} {d2 : Dk} (c : Chg (DS b mb G) w w1) (x : ∀ s g, G1 s = some g → (∃ t, G t = some g) ∨ w.heap.size ≤ g) (k : DEnd b mb G1 n2 d2 w1 w') : DEnd b mb G n2 d2 w w' := by
  obtain ⟨G2, k1, k2, k3⟩ := k
  refine ⟨G2, k1, c.trans k2 (fun i hi hs => ?_), fun s y hy => ?_⟩
  · rcases hs with z | z | ⟨t, z⟩
    · exact .inl z
    · exact .inr (.inl z)
    · rcases x t i z with v | v
      · exact .inr (.inr v)
      · omega
  · rcases k3 s y hy with ⟨t, z⟩ | z
    · exact x t y z
    · exact .inr (Nat.le_trans c.size z)
/-- A cell of the drive itself is another one. -/
theorem DAt.setb (h : DAt w b mb n G d) (i : Nat) (v : Value) (d' : Dk) (hF : d'.F = d.F) (hf : d'.fuse ≤ 9223372036854775807) (hs : d'.steps ≤ 1000000)
    (hx : ([.map (some mb), .bool d.lit, .int .i64 d.fuse, .bool d.down, .int .i64 d.steps] : List Value).set i v = [.map (some mb), .bool d'.lit, .int .i64 d'.fuse, .bool d'.down, .int .i64 d'.steps]) :
    DAt (w.setCell ⟨b, i, none⟩ v) b mb n G d' := by
  have g := grow_set w ⟨b, i, none⟩ v
  have hb := h.blk.set_ i v
  rw [hx] at hb
  refine ⟨hb, h.map.kept g (fun e => h.ne (by injection e with e; exact e.symm)), fun s x hx => ?_, fun s hs => by rw [hF]; exact h.non s hs, h.inj, h.far, h.ne, h.n1, hf, hs⟩
  obtain ⟨e, h1, h2, h3⟩ := h.ent s x hx
  exact ⟨e, by rw [hF]; exact h1, Blk.kept h2 g (fun e => (h.far s x hx).1 (by injection e)), h3⟩
theorem DEnd.setb (h : DAt w b mb n G d) (i : Nat) (v : Value) (d' : Dk) (hF : d'.F = d.F) (hf : d'.fuse ≤ 9223372036854775807) (hs : d'.steps ≤ 1000000)
    (hx : ([.map (some mb), .bool d.lit, .int .i64 d.fuse, .bool d.down, .int .i64 d.steps] : List Value).set i v = [.map (some mb), .bool d'.lit, .int .i64 d'.fuse, .bool d'.down, .int .i64 d'.steps]) :
    DEnd b mb G n d' w (w.setCell ⟨b, i, none⟩ v) :=
  ⟨G, h.setb i v d' hF hf hs hx, Chg.of_row (grow_set w ⟨b, i, none⟩ v) (fun k hk _ => .inl (by injection hk with hk; exact hk.symm)), fun s x hx => .inl ⟨s, hx⟩⟩
end
def refC (d : Dk) (s : ByteArray) : Int := if nameB s = false then 1 else if d.down then 50 else 0
set_option maxRecDepth 100000 in
theorem refuses_any (b mb n : Nat) (G : ByteArray → Option Nat) (d : Dk) (s : ByteArray) (w : World) (h : DAt w b mb n G d) (hs : s.size ≤ maxLen) :
    Calls Try.prog 42 #[.pointer (some ⟨b, 0, none⟩), .string s] w fun e w' => e = .returned (.int .i64 (refC d s)) ∧ w = w' := by
  have c3 := h.c3
  have NB := Lib.hid (nameMayBe_any s w hs)
  cases hn : nameB s
  · have HC : Hid (refC d s = 1) := by show _ = _; unfold refC; rw [if_pos hn]
    have HN := Lib.hid hn
    clear hn
    go_enter Try.func42, Try.ntmps42
    go_wp2_with fail
    refine NB.out.mono ?_
    rintro e w1 ⟨rfl, rfl⟩
    rw [HN.out]
    go_wp2
    go_ret
    exact ⟨by rw [HC.out]; rfl, rfl⟩
  · have HN := Lib.hid hn
    cases hd : d.down
    · have HC : Hid (refC d s = 0) := by show _ = _; unfold refC; rw [hn, hd]; rfl
      rw [hd] at c3
      clear hn hd
      go_enter Try.func42, Try.ntmps42
      go_wp2_with fail
      refine NB.out.mono ?_
      rintro e w1 ⟨rfl, rfl⟩
      rw [HN.out]
      go_wp2
      go_ret
      exact ⟨by rw [HC.out]; rfl, rfl⟩
    · have HC : Hid (refC d s = 50) := by show _ = _; unfold refC; rw [hn, hd]; rfl
      rw [hd] at c3
      clear hn hd
      go_enter Try.func42, Try.ntmps42
      go_wp2_with fail
      refine NB.out.mono ?_
      rintro e w1 ⟨rfl, rfl⟩
      rw [HN.out]
      go_wp2
      go_ret
      exact ⟨by rw [HC.out]; rfl, rfl⟩
/-- A step: what it answers, and what the drive is then. -/
def stepC (d : Dk) : Int := if d.lit = true ∧ d.fuse = 0 then 50 else 0
def stepD (d : Dk) : Dk := if d.lit = true ∧ d.fuse = 0 then { d with down := true } else { d with fuse := if d.lit then d.fuse - 1 else d.fuse, steps := d.steps + 1 }
set_option maxRecDepth 100000 in
set_option maxHeartbeats 1000000 in
theorem step_any (b mb n : Nat) (G : ByteArray → Option Nat) (d : Dk) (w : World) (h : DAt w b mb n G d) (hs : d.steps < 1000000) :
    Calls Try.prog 44 #[.pointer (some ⟨b, 0, none⟩)] w fun e w' => e = .returned (.int .i64 (stepC d)) ∧ DAt w' b mb n G (stepD d) ∧ w.grownBy w' (some b) := by
  have c1 := h.c1
  have c2 := h.c2
  have c3 := h.c3
  have c4 := h.c4
  have f2 := h.fr 2
  have f3 := h.fr 3
  have f4 := h.fr 4
  have H := Lib.hid h
  have hfu := h.f1
  have HF := Lib.hid hfu
  have fI : (d.fuse : Int) ≤ 9223372036854775807 := by omega
  have sI : (d.steps : Int) ≤ 1000000 := by omega
  clear hfu h
  cases hl : d.lit
  · have HC : Hid (stepC d = 0 ∧ stepD d = { d with steps := d.steps + 1 }) := by
      unfold stepC stepD
      rw [hl]
      exact ⟨rfl, by simp⟩
    rw [hl] at c1
    clear hl
    go_enter Try.func44, Try.ntmps44
    go_wp2
    go_ret
    refine ⟨by rw [HC.out.1]; rfl, ?_, grow_set _ _ _⟩
    rw [HC.out.2]
    exact H.out.setb 4 _ _ rfl HF.out (by show d.steps + 1 ≤ 1000000; omega) rfl
  · rw [hl] at c1
    by_cases h0 : d.fuse = 0
    · have HC : Hid (stepC d = 50 ∧ stepD d = { d with down := true }) := by
        unfold stepC stepD
        rw [if_pos ⟨hl, h0⟩, if_pos ⟨hl, h0⟩]
        exact ⟨rfl, rfl⟩
      have e0 : ((d.fuse : Int) == 0) = true := by rw [h0]; rfl
      clear hl h0
      go_enter Try.func44, Try.ntmps44
      go_wp2
      go_ret
      refine ⟨by rw [HC.out.1]; rfl, ?_, grow_set _ _ _⟩
      rw [HC.out.2]
      exact H.out.setb 3 _ _ rfl HF.out (by show d.steps ≤ 1000000; omega) rfl
    · have HC : Hid (stepC d = 0 ∧ stepD d = { d with fuse := d.fuse - 1, steps := d.steps + 1 }) := by
        unfold stepC stepD
        rw [if_neg (fun x => h0 x.2), if_neg (fun x => h0 x.2), hl]
        exact ⟨rfl, rfl⟩
      have e0 : ((d.fuse : Int) == 0) = false := by simp; omega
      have f0 : (1 : Int) ≤ d.fuse := by omega
      have HFU : Hid (((d.fuse - 1 : Nat) : Int) = (d.fuse : Int) - 1) := by show _ = _; omega
      have HL := Lib.hid hl
      clear hl h0
      go_enter Try.func44, Try.ntmps44
      go_wp2
      go_ret
      refine ⟨by rw [HC.out.1]; rfl, ?_, grow_same (grow_set _ _ _) (grow_set _ ⟨b, 4, none⟩ _)⟩
      rw [HC.out.2]
      have k1 := H.out.setb 2 (.int .i64 ((d.fuse : Int) - 1)) { d with fuse := d.fuse - 1 } rfl (by show d.fuse - 1 ≤ _; have := HF.out; omega) (by show d.steps ≤ 1000000; omega) (by rw [← HFU.out]; rfl)
      exact k1.setb 4 _ _ rfl (by show d.fuse - 1 ≤ _; have := HF.out; omega) (by show d.steps + 1 ≤ 1000000; omega) rfl
theorem DEnd.of_b {w w' : World} {b mb n : Nat} {G : ByteArray → Option Nat} {d : Dk} (h : DAt w' b mb n G d) (g : w.grownBy w' (some b)) : DEnd b mb G n d w w' :=
  ⟨G, h, Chg.of_row g (fun k hk _ => .inl (by injection hk with hk; exact hk.symm)), fun s x hx => .inl ⟨s, hx⟩⟩
end Go.Proofs.Ytgfmmchmkfboaaa
