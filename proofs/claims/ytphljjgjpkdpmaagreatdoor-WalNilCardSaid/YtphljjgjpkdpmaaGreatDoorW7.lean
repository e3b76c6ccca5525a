/- Several texts in one: DkD Step DkE DkF RelU. -/
import Derived.Test.YtphljjgjpkdpmaaGreatDoorW6
import Derived.Test.YtphljjgjpkdpmaaGreatDoorW1
import Derived.Deep.RegionLaw
import Derived.Test.YtphljjgjpkdpmaaGreatDoorW4
/- Stage 5: a drive, whole; its steps. -/
namespace Go.Proofs.YtphljjgjpkdpmaaGreatDoor
open Go.RowKit
set_option linter.unusedVariables false
/-- What a drive is: its files, its fuse, is it down, how many steps were done. -/
structure Dk where
  F : ByteArray → Option Ent
  lit : Bool
  fuse : Nat
  down : Bool
  steps : Nat
/-- The drive lies in block b, its map in block mb, with at most n names, in the blocks G. -/
structure DAt (w : World) (b mb n : Nat) (G : ByteArray → Option Nat) (d : Dk) : Prop where
  blk : Blk w b 58 [.map (some mb), .bool d.lit, .int .i64 d.fuse, .bool d.down, .int .i64 d.steps]
  map : MapG w mb n G
  ent : ∀ s g, G s = some g → ∃ e, d.F s = some e ∧ FB w g e ∧ e.sz ≤ 1048576
  non : ∀ s, G s = none → d.F s = none
  inj : ∀ s t g, G s = some g → G t = some g → s = t
  far : ∀ s g, G s = some g → g ≠ b ∧ g ≠ mb
  ne : b ≠ mb
  n1 : n ≤ 1000000
  f1 : d.fuse ≤ 9223372036854775807
  s1 : d.steps ≤ 1000000
/-- The blocks of a drive. -/
def DS (b mb : Nat) (G : ByteArray → Option Nat) : Nat → Prop := fun i => i = b ∨ i = mb ∨ ∃ s, G s = some i
section
variable {w w' : World} {b mb n : Nat} {G : ByteArray → Option Nat} {d : Dk}
theorem DAt.lt (h : DAt w b mb n G d) : b < w.heap.size := h.blk.lt
theorem DAt.c0 (h : DAt w b mb n G d) : w.cell? ⟨b, 0, none⟩ = some (.map (some mb)) := h.blk.cell 0 (by simp)
theorem DAt.c1 (h : DAt w b mb n G d) : w.cell? ⟨b, 1, none⟩ = some (.bool d.lit) := h.blk.cell 1 (by simp)
theorem DAt.c2 (h : DAt w b mb n G d) : w.cell? ⟨b, 2, none⟩ = some (.int .i64 d.fuse) := h.blk.cell 2 (by simp)
theorem DAt.c3 (h : DAt w b mb n G d) : w.cell? ⟨b, 3, none⟩ = some (.bool d.down) := h.blk.cell 3 (by simp)
theorem DAt.c4 (h : DAt w b mb n G d) : w.cell? ⟨b, 4, none⟩ = some (.int .i64 d.steps) := h.blk.cell 4 (by simp)
theorem DAt.fr (h : DAt w b mb n G d) (i : Nat) : w.frozen? ⟨b, i, none⟩ = false := h.blk.frozen i
theorem DAt.chg {S : Nat → Prop} (h : DAt w b mb n G d) (g : Chg S w w') (hn : ∀ i, DS b mb G i → ¬ S i) : DAt w' b mb n G d :=
  ⟨g.blk h.blk (hn b (.inl rfl)), h.map.chg g (hn mb (.inr (.inl rfl))), fun s x hx => by
    obtain ⟨e, h1, h2, h3⟩ := h.ent s x hx
    exact ⟨e, h1, g.blk h2 (hn x (.inr (.inr ⟨s, hx⟩))), h3⟩, h.non, h.inj, h.far, h.ne, h.n1, h.f1, h.s1⟩
theorem DAt.keep (h : DAt w b mb n G d) (g : w.grownBy w' none) : DAt w' b mb n G d := h.chg (Chg.of_none (S := fun _ => False) g) (fun _ _ h => h)
theorem DAt.live (h : DAt w b mb n G d) : ∀ i, DS b mb G i → i < w.heap.size := by
  rintro i (rfl | rfl | ⟨s, hs⟩)
  · exact h.lt
  · exact h.map.lt
  · obtain ⟨e, _, h2, _⟩ := h.ent s i hs
    exact Blk.lt h2
end
/-- Behind a call the drive is d', and only its own blocks are other ones. -/
def DEnd (b mb : Nat) (G : ByteArray → Option Nat) (n' : Nat) (d' : Dk) (w w' : World) : Prop := ∃ G', DAt w' b mb n' G' d' ∧ Chg (DS b mb G) w w' ∧ ∀ s g, G' s = some g → (∃ t, G t = some g) ∨ w.heap.size ≤ g
section
variable {w w1 w' : World} {b mb n : Nat} {G : ByteArray → Option Nat} {d : Dk}
theorem DEnd.same (h : DAt w b mb n G d) (g : w.grownBy w' none) : DEnd b mb G n d w w' := ⟨G, h.keep g, Chg.of_none g, fun s x hx => .inl ⟨s, hx⟩⟩
theorem DEnd.front (g : w.grownBy w1 none) (h : DEnd b mb G n d w1 w') : DEnd b mb G n d w w' := by
  obtain ⟨G', h1, h2, h3⟩ := h
  refine ⟨G', h1, (Chg.of_none g (S := DS b mb G)).trans h2 (fun _ _ h => h), fun s x hx => ?_⟩
  rcases h3 s x hx with y | y
  · exact .inl y
  · exact .inr (Nat.le_trans g.size y)
theorem DEnd.back (h : DEnd b mb G n d w w1) (g : w1.grownBy w' none) : DEnd b mb G n d w w' := by
  obtain ⟨G', h1, h2, h3⟩ := h
  exact ⟨G', h1.keep g, h2.trans (Chg.of_none g (S := DS b mb G)) (fun _ _ h => h), h3⟩
theorem DEnd.more {n1 n2 : Nat} {d1 d2 : Dk} (h : DEnd b mb G n1 d1 w w1) (k : ∀ G', DAt w1 b mb n1 G' d1 → DEnd b mb G' n2 d2 w1 w') : DEnd b mb G n2 d2 w w' := by
  obtain ⟨G1, h1, h2, h3⟩ := h
  obtain ⟨G2, k1, k2, k3⟩ := k G1 h1
  refine ⟨G2, k1, h2.trans k2 (fun i hi hs => ?_), fun s x hx => ?_⟩
  · rcases hs with y | y | ⟨t, y⟩
    · exact .inl y
    · exact .inr (.inl y)
    · rcases h3 t i y with z | z
      · exact .inr (.inr z)
      · omega
  · rcases k3 s x hx with ⟨t, y⟩ | y
    · exact h3 t x y
    · exact .inr (Nat.le_trans h2.size y)
theorem DEnd.after {G1 : ByteArray → Option Nat} {n2 : Nat} {d2 : Dk} (c : Chg (DS b mb G) w w1) (x : ∀ s g, G1 s = some g → (∃ t, G t = some g) ∨ w.heap.size ≤ g) (k : DEnd b mb G1 n2 d2 w1 w') : DEnd b mb G n2 d2 w w' := by
  obtain ⟨G2, k1, k2, k3⟩ := k
  refine ⟨G2, k1, c.trans k2 (fun i hi hs => ?_), fun s y hy => ?_⟩
  · rcases hs with z | z | ⟨t, z⟩
    · exact .inl z
    · exact .inr (.inl z)
    · rcases x t i z with v | v
      · exact .inr (.inr v)
      · omega
  · rcases k3 s y hy with ⟨t, z⟩ | z
    · exact x t y z
    · exact .inr (Nat.le_trans c.size z)
/-- A cell of the drive itself is another one. -/
theorem DAt.setb (h : DAt w b mb n G d) (i : Nat) (v : Value) (d' : Dk) (hF : d'.F = d.F) (hf : d'.fuse ≤ 9223372036854775807) (hs : d'.steps ≤ 1000000)
    (hx : ([.map (some mb), .bool d.lit, .int .i64 d.fuse, .bool d.down, .int .i64 d.steps] : List Value).set i v = [.map (some mb), .bool d'.lit, .int .i64 d'.fuse, .bool d'.down, .int .i64 d'.steps]) :
    DAt (w.setCell ⟨b, i, none⟩ v) b mb n G d' := by
  have g := grow_set w ⟨b, i, none⟩ v
  have hb := h.blk.set_ i v
  rw [hx] at hb
  refine ⟨hb, h.map.kept g (fun e => h.ne (by injection e with e; exact e.symm)), fun s x hx => ?_, fun s hs => by rw [hF]; exact h.non s hs, h.inj, h.far, h.ne, h.n1, hf, hs⟩
  obtain ⟨e, h1, h2, h3⟩ := h.ent s x hx
  exact ⟨e, by rw [hF]; exact h1, Blk.kept h2 g (fun e => (h.far s x hx).1 (by injection e)), h3⟩
theorem DEnd.setb (h : DAt w b mb n G d) (i : Nat) (v : Value) (d' : Dk) (hF : d'.F = d.F) (hf : d'.fuse ≤ 9223372036854775807) (hs : d'.steps ≤ 1000000)
    (hx : ([.map (some mb), .bool d.lit, .int .i64 d.fuse, .bool d.down, .int .i64 d.steps] : List Value).set i v = [.map (some mb), .bool d'.lit, .int .i64 d'.fuse, .bool d'.down, .int .i64 d'.steps]) :
    DEnd b mb G n d' w (w.setCell ⟨b, i, none⟩ v) :=
  ⟨G, h.setb i v d' hF hf hs hx, Chg.of_row (grow_set w ⟨b, i, none⟩ v) (fun k hk _ => .inl (by injection hk with hk; exact hk.symm)), fun s x hx => .inl ⟨s, hx⟩⟩
end
def refC (d : Dk) (s : ByteArray) : Int := if nameB s = false then 1 else if d.down then 50 else 0
set_option maxRecDepth 100000 in
theorem refuses_any (b mb n : Nat) (G : ByteArray → Option Nat) (d : Dk) (s : ByteArray) (w : World) (h : DAt w b mb n G d) (hs : s.size ≤ maxLen) :
    Calls Tryz.prog 63 #[.pointer (some ⟨b, 0, none⟩), .string s] w fun e w' => e = .returned (.int .i64 (refC d s)) ∧ w = w' := by
  have c3 := h.c3
  have NB := Lib.hid (nameMayBe_any s w hs)
  cases hn : nameB s
  · have HC : Hid (refC d s = 1) := by show _ = _; unfold refC; rw [if_pos hn]
    have HN := Lib.hid hn
    clear hn
    go_enter Tryz.func63, Tryz.ntmps63
    go_wp2_with fail
    refine NB.out.mono ?_
    rintro e w1 ⟨rfl, rfl⟩
    rw [HN.out]
    go_wp2
    go_ret
    exact ⟨by rw [HC.out]; rfl, rfl⟩
  · have HN := Lib.hid hn
    cases hd : d.down
    · have HC : Hid (refC d s = 0) := by show _ = _; unfold refC; rw [hn, hd]; rfl
      rw [hd] at c3
      clear hn hd
      go_enter Tryz.func63, Tryz.ntmps63
      go_wp2_with fail
      refine NB.out.mono ?_
      rintro e w1 ⟨rfl, rfl⟩
      rw [HN.out]
      go_wp2
      go_ret
      exact ⟨by rw [HC.out]; rfl, rfl⟩
    · have HC : Hid (refC d s = 50) := by show _ = _; unfold refC; rw [hn, hd]; rfl
      rw [hd] at c3
      clear hn hd
      go_enter Tryz.func63, Tryz.ntmps63
      go_wp2_with fail
      refine NB.out.mono ?_
      rintro e w1 ⟨rfl, rfl⟩
      rw [HN.out]
      go_wp2
      go_ret
      exact ⟨by rw [HC.out]; rfl, rfl⟩
/-- A step: what it answers, and what the drive is then. -/
def stepC (d : Dk) : Int := if d.lit = true ∧ d.fuse = 0 then 50 else 0
def stepD (d : Dk) : Dk := if d.lit = true ∧ d.fuse = 0 then { d with down := true } else { d with fuse := if d.lit then d.fuse - 1 else d.fuse, steps := d.steps + 1 }
set_option maxRecDepth 100000 in
set_option maxHeartbeats 1000000 in
theorem step_any (b mb n : Nat) (G : ByteArray → Option Nat) (d : Dk) (w : World) (h : DAt w b mb n G d) (hs : d.steps < 1000000) :
    Calls Tryz.prog 65 #[.pointer (some ⟨b, 0, none⟩)] w fun e w' => e = .returned (.int .i64 (stepC d)) ∧ DAt w' b mb n G (stepD d) ∧ w.grownBy w' (some b) := by
  have c1 := h.c1
  have c2 := h.c2
  have c3 := h.c3
  have c4 := h.c4
  have f2 := h.fr 2
  have f3 := h.fr 3
  have f4 := h.fr 4
  have H := Lib.hid h
  have hfu := h.f1
  have HF := Lib.hid hfu
  have fI : (d.fuse : Int) ≤ 9223372036854775807 := by omega
  have sI : (d.steps : Int) ≤ 1000000 := by omega
  clear hfu h
  cases hl : d.lit
  · have HC : Hid (stepC d = 0 ∧ stepD d = { d with steps := d.steps + 1 }) := by
      unfold stepC stepD
      rw [hl]
      exact ⟨rfl, by simp⟩
    rw [hl] at c1
    clear hl
    go_enter Tryz.func65, Tryz.ntmps65
    go_wp2
    go_ret
    refine ⟨by rw [HC.out.1]; rfl, ?_, grow_set _ _ _⟩
    rw [HC.out.2]
    exact H.out.setb 4 _ _ rfl HF.out (by show d.steps + 1 ≤ 1000000; omega) rfl
  · rw [hl] at c1
    by_cases h0 : d.fuse = 0
    · have HC : Hid (stepC d = 50 ∧ stepD d = { d with down := true }) := by
        unfold stepC stepD
        rw [if_pos ⟨hl, h0⟩, if_pos ⟨hl, h0⟩]
        exact ⟨rfl, rfl⟩
      have e0 : ((d.fuse : Int) == 0) = true := by rw [h0]; rfl
      clear hl h0
      go_enter Tryz.func65, Tryz.ntmps65
      go_wp2
      go_ret
      refine ⟨by rw [HC.out.1]; rfl, ?_, grow_set _ _ _⟩
      rw [HC.out.2]
      exact H.out.setb 3 _ _ rfl HF.out (by show d.steps ≤ 1000000; omega) rfl
    · have HC : Hid (stepC d = 0 ∧ stepD d = { d with fuse := d.fuse - 1, steps := d.steps + 1 }) := by
        unfold stepC stepD
        rw [if_neg (fun x => h0 x.2), if_neg (fun x => h0 x.2), hl]
        exact ⟨rfl, rfl⟩
      have e0 : ((d.fuse : Int) == 0) = false := by simp; omega
      have f0 : (1 : Int) ≤ d.fuse := by omega
      have HFU : Hid (((d.fuse - 1 : Nat) : Int) = (d.fuse : Int) - 1) := by show _ = _; omega
      have HL := Lib.hid hl
      clear hl h0
      go_enter Tryz.func65, Tryz.ntmps65
      go_wp2
      go_ret
      refine ⟨by rw [HC.out.1]; rfl, ?_, grow_same (grow_set _ _ _) (grow_set _ ⟨b, 4, none⟩ _)⟩
      rw [HC.out.2]
      have k1 := H.out.setb 2 (.int .i64 ((d.fuse : Int) - 1)) { d with fuse := d.fuse - 1 } rfl (by show d.fuse - 1 ≤ _; have := HF.out; omega) (by show d.steps ≤ 1000000; omega) (by rw [← HFU.out]; rfl)
      exact k1.setb 4 _ _ rfl (by show d.fuse - 1 ≤ _; have := HF.out; omega) (by show d.steps + 1 ≤ 1000000; omega) rfl
theorem DEnd.of_b {w w' : World} {b mb n : Nat} {G : ByteArray → Option Nat} {d : Dk} (h : DAt w' b mb n G d) (g : w.grownBy w' (some b)) : DEnd b mb G n d w w' :=
  ⟨G, h, Chg.of_row g (fun k hk _ => .inl (by injection hk with hk; exact hk.symm)), fun s x hx => .inl ⟨s, hx⟩⟩
end Go.Proofs.YtphljjgjpkdpmaaGreatDoor
/- Steps of a region that draws its order: append of a row, a call by its contract. -/
namespace Go.Proofs.YtphljjgjpkdpmaaGreatDoor
open Go.RowKit
set_option linter.unusedVariables false
section
variable {P : Program} {w : World} {ops : Array Oper} {o : Oper} {a : Act} {K : Act → World → Prop} {Q : Exit → Act → World → Prop} {E : Prop}
theorem step_append_row (s x : Operand) (t : TypeId)
    (ho : o.op = .call { callee := .builtin .append, args := #[s, x], argTypes := #[t, t] })
    (e : TypeId) (i : TypeInfo) (z : Value) (bytes : Nat) (ht : P.underlying t = some (.slice e)) (hi : P.info? e = some i) (hz : i.zero = some z)
    (hsize : i.size = 1) (hby : i.bytes = bytes) (hzs : z.cells.size = 1)
    (v : Value) (n : Nat) (xs : List Value) (hs : a.eval s = v) (hown : w.ownsRow 0 e 1 v n xs)
    (vs : Value) (news : List Value) (hx : a.eval x = vs) (hr : RowAt w vs news) (h1 : ∀ u ∈ news, u.oneCell' = true)
    (h63 : n + news.length ≤ maxLen) (hbytes : (n + news.length) * bytes ≤ 140737488355328) (hw : Region.wanted o (yielded ops a.tmps) = true)
    (h : ∀ v' w', w'.ownsRow 0 e 1 v' (n + news.length) (xs ++ news) → w.grownBy w' v.ownBlock → Moved w v v' → K (a.put o.dst v') w') : if Region.wanted o (yielded ops a.tmps) = true then Oper.wp P o a w K Q else E := by
  rw [if_pos hw]
  obtain ⟨v', w', hrun, h2, h3, h4⟩ := run_append_row (P := P) w t o.type e i z bytes ht hi hz hsize hby hzs v n xs hown vs news hr h1 h63 hbytes
  unfold Oper.wp execOp
  simp only [ho, resolve, invoke, builtin, Sem.run_bind, Sem.run_pure, Result.andThen_ok, List.map_toArray, List.map_cons, List.map_nil, hs, hx, hrun]
  exact h v' w' h2 h3 h4
theorem step_wanted (hw : Region.wanted o (yielded ops a.tmps) = true) (h : Oper.wp P o a w K Q) : if Region.wanted o (yielded ops a.tmps) = true then Oper.wp P o a w K Q else E := by
  rw [if_pos hw]; exact h
theorem step_call {f : FuncId} {args : Array Value} (hw : Region.wanted o (yielded ops a.tmps) = true) (ho : (execOp a.eval o).run P w = .ok (.enter f args) w) {R : Ending → World → Prop} (hc : Calls P f args w R)
    (h : ∀ e w', R e w' → ∃ u, e = .returned u ∧ K (a.put o.dst u) w') : if Region.wanted o (yielded ops a.tmps) = true then Oper.wp P o a w K Q else E := by
  rw [if_pos hw]
  unfold Oper.wp
  rw [ho]
  exact hc.mono fun e w' hr => by
    obtain ⟨u, rfl, hk⟩ := h e w' hr
    exact hk
end
end Go.Proofs.YtphljjgjpkdpmaaGreatDoor
/- Stage 5: New, Fuse, Down, Steps, Read, Append, Sync, Remove. -/
namespace Go.Proofs.YtphljjgjpkdpmaaGreatDoor
open Go.RowKit
set_option linter.unusedVariables false
def putE (F : ByteArray → Option Ent) (s : ByteArray) (e : Option Ent) : ByteArray → Option Ent := fun x => if x = s then e else F x
theorem putG_same {G : ByteArray → Option Nat} {s : ByteArray} {g : Nat} (h : G s = some g) : putG G s (some g) = G := by
  funext x
  unfold putG
  split
  · rename_i e; rw [e, h]
  · rfl
section
variable {w w' : World} {b mb n : Nat} {G : ByteArray → Option Nat} {d : Dk}
/-- A file of the drive is another one. -/
theorem DAt.file (h : DAt w b mb n G d) (s : ByteArray) (g : Nat) (hg : G s = some g) (e : Ent) (hb : FB w' g e) (hs : e.sz ≤ 1048576) (gr : w.grownBy w' (some g)) :
    DAt w' b mb n G { d with F := putE d.F s (some e) } := by
  have hf := h.far s g hg
  refine ⟨h.blk.kept gr (fun x => hf.1 (by injection x with x; exact x.symm)), h.map.kept gr (fun x => hf.2 (by injection x with x; exact x.symm)), fun t x hx => ?_, fun t ht => ?_, h.inj, h.far, h.ne, h.n1, h.f1, h.s1⟩
  · by_cases he : t = s
    · subst he
      rw [hg] at hx; injection hx with hx; subst hx
      exact ⟨e, by show putE d.F t (some e) t = some e; unfold putE; rw [if_pos rfl], hb, hs⟩
    · obtain ⟨e', h1, h2, h3⟩ := h.ent t x hx
      refine ⟨e', by show putE d.F s (some e) t = _; unfold putE; rw [if_neg he]; exact h1, Blk.kept h2 gr (fun y => ?_), h3⟩
      injection y with y
      exact he (h.inj t s g (by rw [hx, y]) hg)
  · show putE d.F s (some e) t = none
    unfold putE
    have : t ≠ s := by intro x; rw [x, hg] at ht; cases ht
    rw [if_neg this]; exact h.non t ht
theorem DEnd.file (h : DAt w b mb n G d) (s : ByteArray) (g : Nat) (hg : G s = some g) (e : Ent) (hb : FB w' g e) (hs : e.sz ≤ 1048576) (gr : w.grownBy w' (some g)) :
    DEnd b mb G n { d with F := putE d.F s (some e) } w w' :=
  ⟨G, h.file s g hg e hb hs gr, Chg.of_row gr (fun i hi _ => by injection hi with hi; subst hi; exact .inr (.inr ⟨s, hg⟩)), fun t x hx => .inl ⟨t, hx⟩⟩
/-- The map has a name more, or anew. -/
theorem DAt.mapPut (h : DAt w b mb n G d) (s : ByteArray) (f : Nat) (e : Ent) (hb : FB w f e) (hs : e.sz ≤ 1048576) (hf : (G s = some f ∧ d.F s = some e) ∨ (¬ DS b mb G f))
    (hm : MapG w' mb (n + 1) (putG G s (some f))) (gr : w.grownBy w' (some mb)) (hn : n + 1 ≤ 1000000) : DAt w' b mb (n + 1) (putG G s (some f)) { d with F := putE d.F s (some e) } := by
  have hfb : f ≠ b ∧ f ≠ mb := by
    rcases hf with ⟨x, _⟩ | x
    · exact h.far s f x
    · exact ⟨fun y => x (.inl y), fun y => x (.inr (.inl y))⟩
  refine ⟨h.blk.kept gr (fun x => h.ne (by injection x)), hm, fun t x hx => ?_, fun t ht => ?_, fun t u x ht hu => ?_, fun t x hx => ?_, h.ne, hn, h.f1, h.s1⟩
  · unfold putG at hx
    by_cases he : t = s
    · subst he
      rw [if_pos rfl] at hx; injection hx with hx; subst hx
      exact ⟨e, by show putE d.F t (some e) t = _; unfold putE; rw [if_pos rfl], Blk.kept hb gr (fun y => hfb.2 (by injection y)), hs⟩
    · rw [if_neg he] at hx
      obtain ⟨e', h1, h2, h3⟩ := h.ent t x hx
      exact ⟨e', by show putE d.F s (some e) t = _; unfold putE; rw [if_neg he]; exact h1, Blk.kept h2 gr (fun y => (h.far t x hx).2 (by injection y)), h3⟩
  · unfold putG at ht
    by_cases he : t = s
    · rw [if_pos he] at ht; cases ht
    · rw [if_neg he] at ht
      show putE d.F s (some e) t = none
      unfold putE; rw [if_neg he]; exact h.non t ht
  · unfold putG at ht hu
    have key : ∀ v, v ≠ s → G v = some f → False := fun v hv hv2 => by
      rcases hf with ⟨y, _⟩ | y
      · exact hv (h.inj v s f hv2 y)
      · exact y (.inr (.inr ⟨v, hv2⟩))
    by_cases he : t = s
    · by_cases hu' : u = s
      · rw [he, hu']
      · rw [if_pos he] at ht; rw [if_neg hu'] at hu
        injection ht with ht; subst ht
        exact absurd hu (fun y => key u hu' y)
    · by_cases hu' : u = s
      · rw [if_neg he] at ht; rw [if_pos hu'] at hu
        injection hu with hu; subst hu
        exact absurd ht (fun y => key t he y)
      · rw [if_neg he] at ht; rw [if_neg hu'] at hu
        exact h.inj t u x ht hu
  · unfold putG at hx
    by_cases he : t = s
    · rw [if_pos he] at hx; injection hx with hx; subst hx; exact hfb
    · rw [if_neg he] at hx; exact h.far t x hx
/-- A name is gone. -/
theorem DAt.mapDel (h : DAt w b mb n G d) (s : ByteArray) (hm : MapG w' mb n (putG G s none)) (gr : w.grownBy w' (some mb)) : DAt w' b mb n (putG G s none) { d with F := putE d.F s none } := by
  refine ⟨h.blk.kept gr (fun x => h.ne (by injection x)), hm, fun t x hx => ?_, fun t ht => ?_, fun t u x ht hu => ?_, fun t x hx => ?_, h.ne, h.n1, h.f1, h.s1⟩
  · unfold putG at hx
    by_cases he : t = s
    · rw [if_pos he] at hx; cases hx
    · rw [if_neg he] at hx
      obtain ⟨e', h1, h2, h3⟩ := h.ent t x hx
      exact ⟨e', by show putE d.F s none t = _; unfold putE; rw [if_neg he]; exact h1, Blk.kept h2 gr (fun y => (h.far t x hx).2 (by injection y)), h3⟩
  · show putE d.F s none t = none
    unfold putG at ht
    unfold putE
    by_cases he : t = s
    · rw [if_pos he]
    · rw [if_neg he] at ht ⊢; exact h.non t ht
  · unfold putG at ht hu
    by_cases he : t = s
    · rw [if_pos he] at ht; cases ht
    · by_cases hu' : u = s
      · rw [if_pos hu'] at hu; cases hu
      · rw [if_neg he] at ht; rw [if_neg hu'] at hu
        exact h.inj t u x ht hu
  · unfold putG at hx
    by_cases he : t = s
    · rw [if_pos he] at hx; cases hx
    · rw [if_neg he] at hx; exact h.far t x hx
theorem putG_old (s t : ByteArray) (x : Nat) (hx : putG G s none t = some x) : t ≠ s ∧ G t = some x := by
  unfold putG at hx
  by_cases he : t = s
  · rw [if_pos he] at hx; cases hx
  · rw [if_neg he] at hx; exact ⟨he, hx⟩
theorem DEnd.mapDel (h : DAt w b mb n G d) (s : ByteArray) (hm : MapG w' mb n (putG G s none)) (gr : w.grownBy w' (some mb)) : DEnd b mb G n { d with F := putE d.F s none } w w' :=
  ⟨putG G s none, h.mapDel s hm gr, Chg.of_row gr (fun i hi _ => by injection hi with hi; exact .inr (.inl hi.symm)), fun t x hx => .inl ⟨t, (putG_old s t x hx).2⟩⟩
end
def newD : Dk := ⟨fun _ => none, false, 0, false, 0⟩
theorem newD_at (w : World) : DAt ((w.alloc (.map #[] 0)).alloc (.cells #[.map (some w.heap.size), .bool false, .int .i64 0, .bool false, .int .i64 0] 58)) (w.heap.size + 1) w.heap.size 0 (fun _ => none) newD := by
  have hb := Blk.new (w.alloc (.map #[] 0)) 58 [.map (some w.heap.size), .bool false, .int .i64 0, .bool false, .int .i64 0]
  have e : (w.alloc (.map #[] 0)).heap.size = w.heap.size + 1 := by simp
  rw [e] at hb
  exact ⟨hb, (MapG.made w).kept (World.grownBy_alloc _ _ none) (by simp), (fun s g h => by cases h), (fun _ _ => rfl), (fun s t g h => by cases h), (fun s g h => by cases h), (by omega), Nat.zero_le _, Nat.zero_le _, Nat.zero_le _⟩
set_option maxRecDepth 100000 in
theorem New_any (w : World) : Calls Tryz.prog 10 #[] w fun e w' => e = .returned (.pointer (some ⟨w.heap.size + 1, 0, none⟩)) ∧ DAt w' (w.heap.size + 1) w.heap.size 0 (fun _ => none) newD ∧ w.grownBy w' none := by
  have hmm := @run_makeMap Tryz.prog
  go_enter Tryz.func10, Tryz.ntmps10
  go_wp2
  go_ret
  exact ⟨rfl, newD_at w, grow_alloc w _ (World.grownBy_alloc _ _ _)⟩
set_option maxRecDepth 100000 in
theorem Down_any (b mb n : Nat) (G : ByteArray → Option Nat) (d : Dk) (w : World) (h : DAt w b mb n G d) :
    Calls Tryz.prog 37 #[.pointer (some ⟨b, 0, none⟩)] w fun e w' => e = .returned (.bool d.down) ∧ w = w' := by
  have c3 := h.c3
  go_enter Tryz.func37, Tryz.ntmps37
  go_wp2
  go_ret
  exact ⟨rfl, rfl⟩
set_option maxRecDepth 100000 in
theorem Steps_any (b mb n : Nat) (G : ByteArray → Option Nat) (d : Dk) (w : World) (h : DAt w b mb n G d) :
    Calls Tryz.prog 22 #[.pointer (some ⟨b, 0, none⟩)] w fun e w' => e = .returned (.int .i64 d.steps) ∧ w = w' := by
  have c4 := h.c4
  go_enter Tryz.func22, Tryz.ntmps22
  go_wp2
  go_ret
  exact ⟨rfl, rfl⟩
def fuseD (d : Dk) (n : Int) : Dk := { d with lit := decide (0 ≤ n), fuse := n.toNat }
set_option maxRecDepth 100000 in
theorem Fuse_any (b mb n : Nat) (G : ByteArray → Option Nat) (d : Dk) (k : Int) (w : World) (h : DAt w b mb n G d) (hk : k ≤ 9223372036854775807) :
    Calls Tryz.prog 19 #[.pointer (some ⟨b, 0, none⟩), .int .i64 k] w fun e w' => e = .returned (.tuple #[]) ∧ DEnd b mb G n (fuseD d k) w w' := by
  have c1 := h.c1
  have c2 := h.c2
  have f1 := h.fr 1
  have f2 := h.fr 2
  have H := Lib.hid h
  have hs := h.s1
  have hf := h.f1
  have HS := Lib.hid hs
  have HF := Lib.hid hf
  clear h hs hf
  by_cases h0 : 0 ≤ k
  · obtain ⟨j, rfl⟩ : ∃ j : Nat, k = (j : Int) := ⟨k.toNat, by omega⟩
    have HD : Hid (fuseD d (j : Int) = { d with lit := true, fuse := j }) := by show _ = _; unfold fuseD; rw [decide_eq_true h0, Int.toNat_natCast]
    have hj : Hid (j ≤ 9223372036854775807) := by show _ ≤ _; omega
    have e1 : decide ((0 : Int) ≤ (j : Int)) = true := decide_eq_true h0
    have e2 : max (j : Int) 0 = (j : Int) := by omega
    clear hk h0
    go_enter Tryz.func19, Tryz.ntmps19
    go_wp2
    go_end0
    refine ⟨rfl, ?_⟩
    rw [HD.out]
    have k1 := DEnd.setb H.out 1 (.bool true) { d with lit := true } rfl HF.out HS.out rfl
    exact k1.more fun G' h' => DEnd.setb h' 2 _ _ rfl hj.out HS.out rfl
  · have HD : Hid (fuseD d k = { d with lit := false, fuse := 0 }) := by show _ = _; unfold fuseD; rw [decide_eq_false h0, show k.toNat = 0 by omega]
    have e1 : decide (0 ≤ k) = false := decide_eq_false h0
    have e2 : max k 0 = 0 := by omega
    have e3 : k < 0 := by omega
    clear hk h0
    go_enter Tryz.func19, Tryz.ntmps19
    go_wp2
    go_end0
    refine ⟨rfl, ?_⟩
    rw [HD.out]
    have k1 := DEnd.setb H.out 1 (.bool false) { d with lit := false } rfl HF.out HS.out rfl
    exact k1.more fun G' h' => DEnd.setb h' 2 _ _ rfl (Nat.zero_le _) HS.out rfl
def readR (d : Dk) (s : ByteArray) : ByteArray × Bool := if d.down then (⟨#[]⟩, false) else match d.F s with | none => (⟨#[]⟩, false) | some e => (e.l ++ e.w, true)
set_option maxRecDepth 100000 in
set_option maxHeartbeats 1000000 in
theorem dRead_any (b mb n : Nat) (G : ByteArray → Option Nat) (d : Dk) (s : ByteArray) (w : World) (h : DAt w b mb n G d) (hs : s.size ≤ maxLen) :
    Calls Tryz.prog 26 #[.pointer (some ⟨b, 0, none⟩), .string s] w fun e w' => e = .returned (.tuple #[.string (readR d s).1, .bool (readR d s).2]) ∧ w.grownBy w' none := by
  have c0 := h.c0
  have c3 := h.c3
  have hlk := h.map.look s hs
  cases hd : d.down
  · rw [hd] at c3
    cases hg : G s with
    | none =>
      have HR : Hid (readR d s = (⟨#[]⟩, false)) := by show _ = _; unfold readR; rw [hd, h.non s hg]; rfl
      rw [hg] at hlk
      unfold Pp at hlk
      clear hd hg h hs
      go_enter Tryz.func26, Tryz.ntmps26
      go_wp2
      go_ret2
      exact ⟨by rw [HR.out]; rfl, grow_refl _ _⟩
    | some g =>
      obtain ⟨e, he, hb, hz⟩ := h.ent s g hg
      have HR : Hid (readR d s = (e.l ++ e.w, true)) := by show _ = _; unfold readR; rw [hd, he]; rfl
      rw [hg] at hlk
      unfold Pp at hlk
      have HH := Lib.hid (has_any g e w hb hz)
      clear hd hg h hs he hz
      go_enter Tryz.func26, Tryz.ntmps26
      go_wp2_with fail
      refine HH.out.mono ?_
      rintro e' w1 ⟨rfl, g1⟩
      go_wp2
      go_ret2
      exact ⟨by rw [HR.out]; rfl, g1⟩
  · have HR : Hid (readR d s = (⟨#[]⟩, false)) := by show _ = _; unfold readR; rw [hd]; rfl
    rw [hd] at c3
    clear hd h hs
    go_enter Tryz.func26, Tryz.ntmps26
    go_wp2
    go_ret2
    exact ⟨by rw [HR.out]; rfl, grow_refl _ _⟩
set_option maxRecDepth 100000 in
theorem Down_nil (w : World) : Calls Tryz.prog 37 #[.pointer none] w fun e w' => e = .returned (.bool false) ∧ w = w' := by
  go_enter Tryz.func37, Tryz.ntmps37
  go_wp2
  go_ret
  exact ⟨rfl, rfl⟩
def stepOfC (d : Dk) (s : ByteArray) : Int := if refC d s ≠ 0 then refC d s else if (d.F s).isNone then 51 else stepC d
def stepOfD (d : Dk) (s : ByteArray) : Dk := if refC d s ≠ 0 then d else if (d.F s).isNone then d else stepD d
set_option maxRecDepth 100000 in
set_option maxHeartbeats 1000000 in
theorem stepOf_any (b mb n : Nat) (G : ByteArray → Option Nat) (d : Dk) (s : ByteArray) (w : World) (h : DAt w b mb n G d) (hs : s.size ≤ maxLen) (hst : d.steps < 1000000) :
    Calls Tryz.prog 67 #[.pointer (some ⟨b, 0, none⟩), .string s] w fun e w' => e = .returned (.int .i64 (stepOfC d s)) ∧ DEnd b mb G n (stepOfD d s) w w' := by
  have c0 := h.c0
  have hlk := h.map.look s hs
  have H := Lib.hid h
  have RF := Lib.hid (refuses_any b mb n G d s w h hs)
  have SP := Lib.hid (step_any b mb n G d w h hst)
  by_cases hr : refC d s = 0
  · cases hg : G s with
    | none =>
      have HC : Hid (stepOfC d s = 51 ∧ stepOfD d s = d) := by
        refine ⟨?_, ?_⟩
        · unfold stepOfC; rw [if_neg (fun x => x hr), h.non s hg]; rfl
        · unfold stepOfD; rw [if_neg (fun x => x hr), h.non s hg]; rfl
      have HR := Lib.hid hr
      rw [hg] at hlk
      unfold Pp at hlk
      clear hr hg h hs hst
      go_enter Tryz.func67, Tryz.ntmps67
      go_wp2_with fail
      refine RF.out.mono ?_
      rintro e w1 ⟨rfl, rfl⟩
      rw [HR.out]
      go_wp2
      go_ret
      exact ⟨by rw [HC.out.1]; rfl, by rw [HC.out.2]; exact DEnd.same H.out (grow_refl _ _)⟩
    | some g =>
      obtain ⟨e, he, hb, hz⟩ := h.ent s g hg
      have HC : Hid (stepOfC d s = stepC d ∧ stepOfD d s = stepD d) := by
        refine ⟨?_, ?_⟩
        · unfold stepOfC; rw [if_neg (fun x => x hr), he]; rfl
        · unfold stepOfD; rw [if_neg (fun x => x hr), he]; rfl
      have HR := Lib.hid hr
      rw [hg] at hlk
      unfold Pp at hlk
      clear hr hg h hs hst he hz
      go_enter Tryz.func67, Tryz.ntmps67
      go_wp2_with fail
      refine RF.out.mono ?_
      rintro e w1 ⟨rfl, rfl⟩
      rw [HR.out]
      go_wp2_with fail
      refine SP.out.mono ?_
      rintro e w1 ⟨rfl, hE⟩
      have hE2 := Lib.hid (DEnd.of_b hE.1 hE.2)
      clear hE
      go_wp2
      go_ret
      exact ⟨by rw [HC.out.1]; rfl, by rw [HC.out.2]; exact hE2.out⟩
  · have HC : Hid (stepOfC d s = refC d s ∧ stepOfD d s = d) := by
      unfold stepOfC stepOfD
      rw [if_pos hr, if_pos hr]
      exact ⟨rfl, rfl⟩
    have e1 : (refC d s != 0) = true := by simpa using hr
    clear hr h hs hst
    go_enter Tryz.func67, Tryz.ntmps67
    go_wp2_with fail
    refine RF.out.mono ?_
    rintro e w1 ⟨rfl, rfl⟩
    go_wp2
    go_ret
    exact ⟨by rw [HC.out.1]; rfl, by rw [HC.out.2]; exact DEnd.same H.out (grow_refl _ _)⟩
/-- Behind a step that was done the files are as they were. -/
theorem stepD_F (d : Dk) : (stepD d).F = d.F := by unfold stepD; split <;> rfl
theorem stepOfD_F (d : Dk) (s : ByteArray) : (stepOfD d s).F = d.F := by unfold stepOfD; split; rfl; split; rfl; exact stepD_F d
def removeD (d : Dk) (s : ByteArray) : Dk := if stepOfC d s = 0 then { stepOfD d s with F := putE d.F s none } else stepOfD d s
set_option maxRecDepth 100000 in
set_option maxHeartbeats 1000000 in
theorem Remove_any (b mb n : Nat) (G : ByteArray → Option Nat) (d : Dk) (s : ByteArray) (w : World) (h : DAt w b mb n G d) (hs : s.size ≤ maxLen) (hst : d.steps < 1000000) :
    Calls Tryz.prog 46 #[.pointer (some ⟨b, 0, none⟩), .string s] w fun e w' => e = .returned (.int .i64 (stepOfC d s)) ∧ DEnd b mb G n (removeD d s) w w' := by
  have SO := Lib.hid (stepOf_any b mb n G d s w h hs hst)
  have HS := Lib.hid hs
  clear h hst hs
  by_cases hr : stepOfC d s = 0
  · have HC : Hid (removeD d s = { stepOfD d s with F := putE (stepOfD d s).F s none }) := by show _ = _; unfold removeD; rw [if_pos hr, stepOfD_F]
    have HR := Lib.hid hr
    clear hr
    go_enter Tryz.func46, Tryz.ntmps46
    go_wp2_with fail
    refine SO.out.mono ?_
    rintro e w1 ⟨rfl, hE⟩
    rw [HR.out]
    obtain ⟨G1, h1, x1, x2⟩ := hE
    have X1 := Lib.hid x1
    have X2 := Lib.hid x2
    have c0 := h1.c0
    have H1 := Lib.hid h1
    clear h1 x1 x2
    go_wp2_with (refine wpList_delG rfl _ _ rfl mb n G1 rfl H1.out.map s rfl HS.out ?_)
    intro w2 hm g2
    have HE := Lib.hid (DEnd.after X1.out X2.out (DEnd.mapDel H1.out s hm g2))
    clear hm g2
    go_wp2
    go_ret
    exact ⟨by rw [HR.out]; rfl, by rw [HC.out]; exact HE.out⟩
  · have HC : Hid (removeD d s = stepOfD d s) := by show _ = _; unfold removeD; rw [if_neg hr]
    have e1 : (stepOfC d s == 0) = false := by simpa using hr
    clear hr
    go_enter Tryz.func46, Tryz.ntmps46
    go_wp2_with fail
    refine SO.out.mono ?_
    rintro e w1 ⟨rfl, hE⟩
    go_wp2
    go_ret
    exact ⟨rfl, by rw [HC.out]; exact hE⟩
def syncE (e : Ent) : Ent := ⟨(settleE e (e.w.size : Int)).l, (settleE e (e.w.size : Int)).w, true⟩
def syncD (d : Dk) (s : ByteArray) : Dk := if stepOfC d s = 0 then { stepOfD d s with F := putE d.F s ((d.F s).map syncE) } else stepOfD d s
theorem settle_sz (e : Ent) (n : Int) : (settleE e n).sz ≤ e.sz := by
  unfold settleE Ent.sz
  simp only [ByteArray.size_append, ByteArray.size_extract]
  show _ + 0 ≤ _
  omega
theorem stepOf_zero {d : Dk} {s : ByteArray} (h : stepOfC d s = 0) : ∃ e, d.F s = some e := by
  unfold stepOfC at h
  split at h
  · rename_i x; exact absurd h x
  · cases hf : d.F s with
    | none => rw [hf] at h; simp at h
    | some e => exact ⟨e, rfl⟩
set_option maxRecDepth 100000 in
set_option maxHeartbeats 2000000 in
theorem Sync_any (b mb n : Nat) (G : ByteArray → Option Nat) (d : Dk) (s : ByteArray) (w : World) (h : DAt w b mb n G d) (hs : s.size ≤ maxLen) (hst : d.steps < 1000000) :
    Calls Tryz.prog 33 #[.pointer (some ⟨b, 0, none⟩), .string s] w fun e w' => e = .returned (.int .i64 (stepOfC d s)) ∧ DEnd b mb G n (syncD d s) w w' := by
  have SO := Lib.hid (stepOf_any b mb n G d s w h hs hst)
  have HS := Lib.hid hs
  clear h hst hs
  by_cases hr : stepOfC d s = 0
  · obtain ⟨e, he⟩ := stepOf_zero hr
    have HC : Hid (syncD d s = { stepOfD d s with F := putE (stepOfD d s).F s (some (syncE e)) }) := by show _ = _; unfold syncD; rw [if_pos hr, stepOfD_F, he]; rfl
    have HR := Lib.hid hr
    have HEE : Hid ((stepOfD d s).F s = some e) := by show _ = _; rw [stepOfD_F, he]
    clear hr he
    go_enter Tryz.func33, Tryz.ntmps33
    go_wp2_with fail
    refine SO.out.mono ?_
    rintro e1 w1 ⟨rfl, hE⟩
    rw [HR.out]
    obtain ⟨G1, h1, x1, x2⟩ := hE
    have X1 := Lib.hid x1
    have X2 := Lib.hid x2
    have c0 := h1.c0
    have H1 := Lib.hid h1
    have hlk := h1.map.look s HS.out
    cases hg : G1 s with
    | none => have := h1.non s hg; rw [HEE.out] at this; cases this
    | some g =>
      obtain ⟨e', he', hb, hz⟩ := h1.ent s g hg
      obtain rfl : e = e' := by rw [HEE.out] at he'; injection he'
      rw [hg] at hlk
      unfold Pp at hlk
      have HG := Lib.hid hg
      have d0 := hb.c0
      have d1 := hb.c1
      have HB := Lib.hid hb
      have HZ := Lib.hid hz
      clear h1 x1 x2 hg he' hb hz
      go_wp2_with fail
      go_region_law (((with_reducible show (if Region.wanted (Oper.mk _ (Op.call { callee := .value (.func 49), args := _, argTypes := _ }) _ _ _ _) _ = true then _ else _)); refine step_wanted rfl ?_; go_simp; go_at_call 49; refine (settle_any g e (e.w.size : Int) _ (Blk.drew HB.out) HZ.out).mono ?_; rintro e2 w2 ⟨rfl, hb2, g2⟩; have m2 := hb2.c2; have n2 := hb2.fr 2))
      all_goals
        have HE := Lib.hid (DEnd.after X1.out X2.out (DEnd.file H1.out s g HG.out (syncE e) (hb2.set2 true) (Nat.le_trans (settle_sz e _) HZ.out) (grow_same (grow_drew _ g2) (grow_set w2 ⟨g, 2, none⟩ (.bool true)))))
        clear hb2 g2
        go_wp2
        go_ret
        exact ⟨by rw [HR.out]; rfl, by rw [HC.out]; exact HE.out⟩
  · have HC : Hid (syncD d s = stepOfD d s) := by show _ = _; unfold syncD; rw [if_neg hr]
    have e1 : (stepOfC d s == 0) = false := by simpa using hr
    clear hr
    go_enter Tryz.func33, Tryz.ntmps33
    go_wp2_with fail
    refine SO.out.mono ?_
    rintro e w1 ⟨rfl, hE⟩
    go_wp2
    go_ret
    exact ⟨rfl, by rw [HC.out]; exact hE⟩
end Go.Proofs.YtphljjgjpkdpmaaGreatDoor
/- Stage 5: Append. -/
namespace Go.Proofs.YtphljjgjpkdpmaaGreatDoor
open Go.RowKit
set_option linter.unusedVariables false
def noE : Ent := ⟨⟨#[]⟩, ⟨#[]⟩, false⟩
def entOf (d : Dk) (s : ByteArray) : Ent := (d.F s).getD noE
def appC (d : Dk) (s x : ByteArray) : Int := if refC d s ≠ 0 then refC d s else if 1048576 < x.size + (entOf d s).sz then 52 else stepC d
def appD (d : Dk) (s x : ByteArray) : Dk :=
  if refC d s ≠ 0 then d else if 1048576 < x.size + (entOf d s).sz then d else if stepC d ≠ 0 then stepD d else { stepD d with F := putE d.F s (some ⟨(entOf d s).l, (entOf d s).w ++ x, (entOf d s).s⟩) }
theorem noE_fb (w : World) : FB (w.alloc (.cells #[.string ⟨#[]⟩, .string ⟨#[]⟩, .bool false] 89)) w.heap.size noE := Blk.new w 89 [.string ⟨#[]⟩, .string ⟨#[]⟩, .bool false]
theorem putE_twice (F : ByteArray → Option Ent) (s : ByteArray) (a c : Option Ent) : putE (putE F s a) s c = putE F s c := by
  funext x
  unfold putE
  split <;> rfl
set_option maxRecDepth 100000 in
set_option maxHeartbeats 4000000 in
theorem Append_any (b mb n : Nat) (G : ByteArray → Option Nat) (d : Dk) (s x : ByteArray) (w : World) (h : DAt w b mb n G d) (hs : s.size ≤ maxLen) (hx : x.size ≤ maxLen) (hst : d.steps < 1000000) (hn : n < 1000000) :
    Calls Tryz.prog 32 #[.pointer (some ⟨b, 0, none⟩), .string s, .string x] w fun e w' => e = .returned (.int .i64 (appC d s x)) ∧ ∃ n', n' ≤ n + 1 ∧ DEnd b mb G n' (appD d s x) w w' := by
  have c0 := h.c0
  have hlk := h.map.look s hs
  have H := Lib.hid h
  have hmn := mapNil mb
  have RF := Lib.hid (refuses_any b mb n G d s w h hs)
  have HST := Lib.hid hst
  have HN := Lib.hid hn
  have HS := Lib.hid hs
  have hxI : (x.size : Int) ≤ 9223372036854775807 := by unfold maxLen at hx; omega
  clear hst hn hs hx
  by_cases hr : refC d s = 0
  · have HR := Lib.hid hr
    clear hr
    obtain ⟨e, he⟩ : ∃ e, e = entOf d s := ⟨_, rfl⟩
    have HEE := Lib.hid he
    have hfile : (∃ g, G s = some g) ∨ G s = none := by cases G s <;> simp
    rcases hfile with ⟨g, hg⟩ | hg
    · obtain ⟨e', he', hb, hz⟩ := h.ent s g hg
      have e2 : e = e' := by rw [he]; unfold entOf; rw [he']; rfl
      subst e2
      have HGB := Lib.hid (h.far s g hg)
      have HG := Lib.hid hg
      rw [hg] at hlk
      unfold Pp at hlk
      have HZ := Lib.hid hz
      have HB := Lib.hid hb
      have GW := Lib.hid (grow_refl w none)
      have hzI : (e.sz : Int) ≤ 1048576 := by omega
      have hz0 : (0 : Int) ≤ (e.sz : Int) := by omega
      clear h hg he he' hb hz
      by_cases hbig : 1048576 < x.size + e.sz
      · have HC : Hid (appC d s x = 52 ∧ appD d s x = d) := by
          refine ⟨?_, ?_⟩
          · unfold appC; rw [HR.out, if_neg (fun y => y rfl), ← HEE.out, if_pos hbig]
          · unfold appD; rw [HR.out, if_neg (fun y => y rfl), ← HEE.out, if_pos hbig]
        have d1 : (1048576 : Int) - (e.sz : Int) < (x.size : Int) := by omega
        clear hbig
        go_enter Tryz.func32, Tryz.ntmps32
        go_wp2_with fail
        refine RF.out.mono ?_
        rintro e1 w1 ⟨rfl, rfl⟩
        rw [HR.out]
        go_wp2_with fail
        refine (dSize_any g e _ HB.out HZ.out).mono ?_
        rintro e1 w1 ⟨rfl, g1⟩
        go_wp2
        go_ret
        exact ⟨by rw [HC.out.1]; rfl, n, by omega, by rw [HC.out.2]; exact DEnd.same H.out (grow_none GW.out g1)⟩
      · have d1 : (x.size : Int) ≤ (1048576 : Int) - (e.sz : Int) := by omega
        have hxs : e.sz + x.size ≤ 1048576 := by omega
        have HXS := Lib.hid hxs
        have HNB : Hid (¬ 1048576 < x.size + e.sz) := hbig
        clear hbig hxs
        by_cases hsc : stepC d = 0
        · have HC : Hid (appC d s x = 0 ∧ appD d s x = { stepD d with F := putE (stepD d).F s (some ⟨e.l, e.w ++ x, e.s⟩) }) := by
            refine ⟨?_, ?_⟩
            · unfold appC; rw [HR.out, if_neg (fun y => y rfl), ← HEE.out, if_neg HNB.out, hsc]
            · unfold appD; rw [HR.out, if_neg (fun y => y rfl), ← HEE.out, if_neg HNB.out, hsc, if_neg (fun y => y rfl), stepD_F]
          have HSC := Lib.hid hsc
          clear hsc
          go_enter Tryz.func32, Tryz.ntmps32
          go_wp2_with fail
          refine RF.out.mono ?_
          rintro e1 w1 ⟨rfl, rfl⟩
          rw [HR.out]
          go_wp2_with fail
          refine (dSize_any g e _ HB.out HZ.out).mono ?_
          rintro e1 w1 ⟨rfl, g1⟩
          have G1 := Lib.hid (grow_none GW.out g1)
          have B1 := Lib.hid (Blk.keep HB.out g1 : FB w1 g e)
          have H1 := Lib.hid (H.out.keep G1.out)
          clear g1
          go_wp2_with fail
          refine (step_any b mb n G d _ H1.out HST.out).mono ?_
          rintro e1 w2 ⟨rfl, h2, g2⟩
          rw [HSC.out]
          have H2 := Lib.hid h2
          have B2 := Lib.hid (Blk.kept B1.out g2 (fun y => HGB.out.1 (by injection y)) : FB w2 g e)
          have C2 := Lib.hid ((Chg.of_none G1.out (S := DS b mb G)).trans (Chg.of_row g2 (S := DS b mb G) (fun k hk _ => .inl (by injection hk with hk; exact hk.symm))) (fun _ _ h => h))
          clear h2 g2
          go_wp2_with fail
          refine (put_any g e x _ B2.out HXS.out).mono ?_
          rintro e1 w3 ⟨rfl, b3, g3⟩
          have c3 := (H2.out.blk.kept g3 (fun y => HGB.out.1 (by injection y with y; exact y.symm))).cell 0 (by simp)
          have M3 := Lib.hid (H2.out.map.kept g3 (fun y => HGB.out.2 (by injection y with y; exact y.symm)))
          have B3 := Lib.hid b3
          have G3 := Lib.hid g3
          clear b3 g3
          go_wp2_with (refine wpList_putG _ rfl _ _ _ rfl mb n G rfl M3.out (by have := HN.out; show n < 2^63-1; omega) s g rfl rfl HS.out ?_)
          intro w4 m4 g4
          have HE : Hid (DEnd b mb G (n + 1) (appD d s x) w w4) := by
            show DEnd _ _ _ _ _ _ _
            rw [HC.out.2]
            have hd3 := H2.out.file s g HG.out ⟨e.l, e.w ++ x, e.s⟩ B3.out (by have := HXS.out; unfold Ent.sz at *; simp only [ByteArray.size_append]; omega) G3.out
            have hk := DAt.mapPut hd3 s g ⟨e.l, e.w ++ x, e.s⟩ B3.out (by have := HXS.out; unfold Ent.sz at *; simp only [ByteArray.size_append]; omega) (.inl ⟨HG.out, by show putE _ _ _ _ = _; unfold putE; rw [if_pos rfl]⟩) m4 g4 (by have := HN.out; omega)
            simp only [putE_twice] at hk
            refine ⟨_, hk, (C2.out.trans (Chg.of_row G3.out (S := DS b mb G) (fun k hk _ => by injection hk with hk; subst hk; exact .inr (.inr ⟨s, HG.out⟩))) (fun _ _ h => h)).trans (Chg.of_row g4 (S := DS b mb G) (fun k hk _ => by injection hk with hk; exact .inr (.inl hk.symm))) (fun _ _ h => h), fun t y hy => ?_⟩
            rw [putG_same HG.out] at hy
            exact .inl ⟨t, hy⟩
          clear m4 g4
          go_wp2
          go_ret
          exact ⟨by rw [HC.out.1]; rfl, n + 1, Nat.le_refl _, HE.out⟩
        · have HC : Hid (appC d s x = stepC d ∧ appD d s x = stepD d) := by
            refine ⟨?_, ?_⟩
            · unfold appC; rw [HR.out, if_neg (fun y => y rfl), ← HEE.out, if_neg HNB.out]
            · unfold appD; rw [HR.out, if_neg (fun y => y rfl), ← HEE.out, if_neg HNB.out, if_pos hsc]
          have e3 : (stepC d != 0) = true := by simpa using hsc
          clear hsc
          go_enter Tryz.func32, Tryz.ntmps32
          go_wp2_with fail
          refine RF.out.mono ?_
          rintro e1 w1 ⟨rfl, rfl⟩
          rw [HR.out]
          go_wp2_with fail
          refine (dSize_any g e _ HB.out HZ.out).mono ?_
          rintro e1 w1 ⟨rfl, g1⟩
          have G1 := Lib.hid (grow_none GW.out g1)
          have H1 := Lib.hid (H.out.keep G1.out)
          clear g1
          go_wp2_with fail
          refine (step_any b mb n G d _ H1.out HST.out).mono ?_
          rintro e1 w2 ⟨rfl, h2, g2⟩
          have HE := Lib.hid (DEnd.front G1.out (DEnd.of_b h2 g2))
          clear h2 g2
          go_wp2
          go_ret
          exact ⟨by rw [HC.out.1]; rfl, n, by omega, by rw [HC.out.2]; exact HE.out⟩
    · have e2 : e = noE := by rw [he]; unfold entOf; rw [h.non s hg]; rfl
      subst e2
      have HG := Lib.hid hg
      rw [hg] at hlk
      unfold Pp at hlk
      have HLV := Lib.hid h.live
      have HGB : Hid (w.heap.size ≠ b ∧ w.heap.size ≠ mb) := ⟨by have := h.lt; omega, by have := h.map.lt; omega⟩
      have HB := Lib.hid (noE_fb w)
      have HZ : Hid (noE.sz ≤ 1048576) := by show _ ≤ _; decide
      have GW := Lib.hid (World.grownBy_alloc w (.cells #[.string ⟨#[]⟩, .string ⟨#[]⟩, .bool false] 89) none)
      have hb := h.lt
      have hzI : (noE.sz : Int) ≤ 1048576 := by decide
      have hz0 : (0 : Int) ≤ (noE.sz : Int) := by decide
      obtain ⟨e, he2⟩ : ∃ e, e = noE := ⟨_, rfl⟩
      rw [← he2] at HEE HB HZ hzI hz0
      clear h hg he he2
      by_cases hbig : 1048576 < x.size + e.sz
      · have HC : Hid (appC d s x = 52 ∧ appD d s x = d) := by
          refine ⟨?_, ?_⟩
          · unfold appC; rw [HR.out, if_neg (fun y => y rfl), ← HEE.out, if_pos hbig]
          · unfold appD; rw [HR.out, if_neg (fun y => y rfl), ← HEE.out, if_pos hbig]
        have d1 : (1048576 : Int) - (e.sz : Int) < (x.size : Int) := by omega
        clear hbig
        go_enter Tryz.func32, Tryz.ntmps32
        go_wp2_with fail
        refine RF.out.mono ?_
        rintro e1 w1 ⟨rfl, rfl⟩
        rw [HR.out]
        go_wp2_with fail
        refine (dSize_any w.heap.size e _ HB.out HZ.out).mono ?_
        rintro e1 w1 ⟨rfl, g1⟩
        go_wp2
        go_ret
        exact ⟨by rw [HC.out.1]; rfl, n, by omega, by rw [HC.out.2]; exact DEnd.same H.out (grow_none GW.out g1)⟩
      · have d1 : (x.size : Int) ≤ (1048576 : Int) - (e.sz : Int) := by omega
        have hxs : e.sz + x.size ≤ 1048576 := by omega
        have HXS := Lib.hid hxs
        have HNB : Hid (¬ 1048576 < x.size + e.sz) := hbig
        clear hbig hxs
        by_cases hsc : stepC d = 0
        · have HC : Hid (appC d s x = 0 ∧ appD d s x = { stepD d with F := putE (stepD d).F s (some ⟨e.l, e.w ++ x, e.s⟩) }) := by
            refine ⟨?_, ?_⟩
            · unfold appC; rw [HR.out, if_neg (fun y => y rfl), ← HEE.out, if_neg HNB.out, hsc]
            · unfold appD; rw [HR.out, if_neg (fun y => y rfl), ← HEE.out, if_neg HNB.out, hsc, if_neg (fun y => y rfl), stepD_F]
          have HSC := Lib.hid hsc
          clear hsc
          go_enter Tryz.func32, Tryz.ntmps32
          go_wp2_with fail
          refine RF.out.mono ?_
          rintro e1 w1 ⟨rfl, rfl⟩
          rw [HR.out]
          go_wp2_with fail
          refine (dSize_any w.heap.size e _ HB.out HZ.out).mono ?_
          rintro e1 w1 ⟨rfl, g1⟩
          have G1 := Lib.hid (grow_none GW.out g1)
          have B1 := Lib.hid (Blk.keep HB.out g1 : FB w1 w.heap.size e)
          have H1 := Lib.hid (H.out.keep G1.out)
          clear g1
          go_wp2_with fail
          refine (step_any b mb n G d _ H1.out HST.out).mono ?_
          rintro e1 w2 ⟨rfl, h2, g2⟩
          rw [HSC.out]
          have H2 := Lib.hid h2
          have B2 := Lib.hid (Blk.kept B1.out g2 (fun y => HGB.out.1 (by injection y)) : FB w2 w.heap.size e)
          have C2 := Lib.hid ((Chg.of_none G1.out (S := DS b mb G)).trans (Chg.of_row g2 (S := DS b mb G) (fun k hk _ => .inl (by injection hk with hk; exact hk.symm))) (fun _ _ h => h))
          clear h2 g2
          go_wp2_with fail
          refine (put_any w.heap.size e x _ B2.out HXS.out).mono ?_
          rintro e1 w3 ⟨rfl, b3, g3⟩
          have c3 := (H2.out.blk.kept g3 (fun y => HGB.out.1 (by injection y with y; exact y.symm))).cell 0 (by simp)
          have M3 := Lib.hid (H2.out.map.kept g3 (fun y => HGB.out.2 (by injection y with y; exact y.symm)))
          have B3 := Lib.hid b3
          have G3 := Lib.hid g3
          clear b3 g3
          go_wp2_with (refine wpList_putG _ rfl _ _ _ rfl mb n G rfl M3.out (by have := HN.out; show n < 2^63-1; omega) s w.heap.size rfl rfl HS.out ?_)
          intro w4 m4 g4
          have HE : Hid (DEnd b mb G (n + 1) (appD d s x) w w4) := by
            show DEnd _ _ _ _ _ _ _
            rw [HC.out.2]
            have hnd : ¬ DS b mb G w.heap.size := fun y => by have := HLV.out _ y; omega
            have hd3 := H2.out.chg (Chg.of_row G3.out (S := fun i => i = w.heap.size) (fun k hk _ => by injection hk with hk; exact hk.symm)) (fun i hi y => hnd (by rw [← y]; exact hi))
            have hk := DAt.mapPut hd3 s w.heap.size ⟨e.l, e.w ++ x, e.s⟩ B3.out (by have := HXS.out; unfold Ent.sz at *; simp only [ByteArray.size_append]; omega) (.inr hnd) m4 g4 (by have := HN.out; omega)
            refine ⟨_, hk, (C2.out.trans (Chg.of_row G3.out (S := fun i => i = w.heap.size) (fun k hk _ => by injection hk with hk; exact hk.symm)) (fun i hi y => by omega)).trans (Chg.of_row g4 (S := DS b mb G) (fun k hk _ => by injection hk with hk; exact .inr (.inl hk.symm))) (fun _ _ h => h), fun t y hy => ?_⟩
            unfold putG at hy
            by_cases ht : t = s
            · rw [if_pos ht] at hy; injection hy with hy; exact .inr (by omega)
            · rw [if_neg ht] at hy; exact .inl ⟨t, hy⟩
          clear m4 g4
          go_wp2
          go_ret
          exact ⟨by rw [HC.out.1]; rfl, n + 1, Nat.le_refl _, HE.out⟩
        · have HC : Hid (appC d s x = stepC d ∧ appD d s x = stepD d) := by
            refine ⟨?_, ?_⟩
            · unfold appC; rw [HR.out, if_neg (fun y => y rfl), ← HEE.out, if_neg HNB.out]
            · unfold appD; rw [HR.out, if_neg (fun y => y rfl), ← HEE.out, if_neg HNB.out, if_pos hsc]
          have e3 : (stepC d != 0) = true := by simpa using hsc
          clear hsc
          go_enter Tryz.func32, Tryz.ntmps32
          go_wp2_with fail
          refine RF.out.mono ?_
          rintro e1 w1 ⟨rfl, rfl⟩
          rw [HR.out]
          go_wp2_with fail
          refine (dSize_any w.heap.size e _ HB.out HZ.out).mono ?_
          rintro e1 w1 ⟨rfl, g1⟩
          have G1 := Lib.hid (grow_none GW.out g1)
          have H1 := Lib.hid (H.out.keep G1.out)
          clear g1
          go_wp2_with fail
          refine (step_any b mb n G d _ H1.out HST.out).mono ?_
          rintro e1 w2 ⟨rfl, h2, g2⟩
          have HE := Lib.hid (DEnd.front G1.out (DEnd.of_b h2 g2))
          clear h2 g2
          go_wp2
          go_ret
          exact ⟨by rw [HC.out.1]; rfl, n, by omega, by rw [HC.out.2]; exact HE.out⟩
  · have HC : Hid (appC d s x = refC d s ∧ appD d s x = d) := ⟨by unfold appC; rw [if_pos hr], by unfold appD; rw [if_pos hr]⟩
    have e1 : (refC d s != 0) = true := by simpa using hr
    clear hr h hlk
    go_enter Tryz.func32, Tryz.ntmps32
    go_wp2_with fail
    refine RF.out.mono ?_
    rintro e w1 ⟨rfl, rfl⟩
    go_wp2
    go_ret
    exact ⟨by rw [HC.out.1]; rfl, n, by omega, by rw [HC.out.2]; exact DEnd.same H.out (grow_refl _ _)⟩
end Go.Proofs.YtphljjgjpkdpmaaGreatDoor
/- A region that draws its order and ends in a chain of operations, the first of them behind all others (perhaps by way of others): the others each alone, the chain as in a plain statement. -/
namespace Go.Proofs.YtphljjgjpkdpmaaGreatDoor
open Go.RowKit
set_option linter.unusedVariables false
section
variable {P : Program} {ops : Array Oper} {I : World → Prop} {R : World → World → Prop}
def onAt (ops : Array Oper) (i j : Nat) : Bool := match ops[i]? with
  | none => false
  | some o => o.after.toList.any fun e => Region.binds .any e && (e.on == j)
theorem onAt_parts {i j : Nat} (h : onAt ops i j = true) : ∃ o, ops[i]? = some o ∧ ∃ e ∈ o.after, Region.binds .any e = true ∧ e.on = j := by
  unfold onAt at h
  cases ho : ops[i]? with
  | none => rw [ho] at h; cases h
  | some o =>
    rw [ho] at h
    simp only [List.any_eq_true, Bool.and_eq_true, beq_iff_eq] at h
    obtain ⟨e, he, hb, hon⟩ := h
    exact ⟨o, rfl, e, by simpa using he, hb, hon⟩
/-- From operation m on each waits for the one ahead; all ahead of m are waited for on the way to m. -/
def tailsOk (ops : Array Oper) (m : Nat) : Bool :=
  decide (m < ops.size) && ((List.range m).all fun j => (List.range' (j + 1) (m - j)).any fun i => onAt ops i j) && (List.range' m (ops.size - m - 1)).all fun j => onAt ops (j + 1) j
theorem tailsOk_parts {m : Nat} (h : tailsOk ops m = true) : m < ops.size ∧ (∀ j, j < m → ∃ i, j < i ∧ i ≤ m ∧ onAt ops i j = true) ∧ ∀ j, m ≤ j → j + 1 < ops.size → onAt ops (j + 1) j = true := by
  unfold tailsOk at h
  simp only [Bool.and_eq_true, decide_eq_true_eq, List.all_eq_true, List.mem_range, List.any_eq_true] at h
  obtain ⟨⟨h1, h2⟩, h3⟩ := h
  refine ⟨h1, fun j hj => ?_, fun j hj hj2 => h3 j (List.mem_range'_1.2 ⟨hj, by omega⟩)⟩
  obtain ⟨i, hi, ho⟩ := h2 j hj
  have := List.mem_range'_1.1 hi
  exact ⟨i, by omega, by omega, ho⟩
/-- The chain itself. -/
theorem chain_sound {m : Nat} {Q : Exit → Act → World → Prop} (hback : ∀ (i : Nat) o, ops[i]? = some o → ∀ e ∈ o.after, Region.binds .any e = true → e.on < i) (hch : ∀ j, m ≤ j → j + 1 < ops.size → onAt ops (j + 1) j = true) :
    ∀ (fuel k : Nat) (listed : Array Bool) (a : Act) (w : World), m ≤ k → listed.size = ops.size → (∀ j, j < k → j < ops.size → listed.getD j false = true) → (∀ j, k ≤ j → j < ops.size → listed.getD j true = false) → listed.toList.count false ≤ fuel →
      wpList P ops Q (ops.toList.drop k) a w → wpAny P .any ops Q fuel listed a w := by
  have only : ∀ (k : Nat) (listed : Array Bool), m ≤ k → listed.size = ops.size → (∀ j, j < k → j < ops.size → listed.getD j false = true) → (∀ j, k ≤ j → j < ops.size → listed.getD j true = false) →
      (∀ i ∈ Region.ready .any ops listed, i = k ∧ k < ops.size) ∧ (k < ops.size → k ∈ Region.ready .any ops listed) := by
    intro k listed hk hls hlo hhi
    refine ⟨fun i hi => ?_, fun hks => ?_⟩
    · obtain ⟨h0, o, ho, hafter⟩ := mem_ready.1 hi
      have hlt : i < ops.size := (Array.getElem?_eq_some_iff.1 ho).1
      have hil := getD_false_of h0
      rcases Nat.lt_or_ge i k with h | h
      · have h1 := hlo i h hlt
        simp [Array.getElem?_eq_getElem hil] at h0 h1
        rw [h0] at h1; cases h1
      · rcases Nat.eq_or_lt_of_le h with h | h
        · exact ⟨h.symm, by omega⟩
        · exfalso
          obtain ⟨o', ho', e, he, hb, hon⟩ := onAt_parts (hch (i - 1) (by omega) (by omega))
          rw [show i - 1 + 1 = i by omega, ho] at ho'
          injection ho' with ho'
          subst ho'
          have h1 := hafter e he hb
          rw [hon] at h1
          have h2 := hhi (i - 1) (by omega) (by omega)
          have hjl : i - 1 < listed.size := by omega
          simp [Array.getElem?_eq_getElem hjl] at h1 h2
          rw [h2] at h1; cases h1
    · exact mem_ready.2 ⟨hhi k (Nat.le_refl _) hks, ops[k], Array.getElem?_eq_getElem hks, fun e he hb => by
        have := hback k _ (Array.getElem?_eq_getElem hks) e he hb
        exact hlo e.on this (by omega)⟩
  intro fuel
  induction fuel with
  | zero =>
    intro k listed a w hk hls hlo hhi hc h
    have hks : ops.size ≤ k := by
      rcases Nat.lt_or_ge k ops.size with hlt | hge
      · exfalso
        have hz : listed.toList.count false = 0 := by omega
        rw [List.count_eq_zero] at hz
        apply hz
        have hm := hhi k (Nat.le_refl _) hlt
        have hml : k < listed.size := by omega
        have e : listed[k] = false := by simpa [Array.getElem?_eq_getElem hml] using hm
        rw [← e]
        simp
      · exact hge
    rw [List.drop_of_length_le (by simpa using hks)] at h
    refine ⟨?_, h⟩
    rcases hr : Region.ready .any ops listed with _ | ⟨j, js⟩
    · rfl
    · have := ((only k listed hk hls hlo hhi).1 j (by rw [hr]; exact List.mem_cons_self ..)).2
      omega
  | succ fuel ih =>
    intro k listed a w hk hls hlo hhi hc h
    refine ⟨fun hr => ?_, fun i hi => ?_⟩
    · have hks : ops.size ≤ k := by
        rcases Nat.lt_or_ge k ops.size with hlt | hge
        · have := (only k listed hk hls hlo hhi).2 hlt
          rw [hr] at this; cases this
        · exact hge
      rw [List.drop_of_length_le (by simpa using hks)] at h
      exact h
    · obtain ⟨rfl, hlt⟩ := (only k listed hk hls hlo hhi).1 i hi
      have hlt' : i < ops.toList.length := by rw [Array.length_toList]; exact hlt
      rw [List.drop_eq_getElem_cons hlt', Array.getElem_toList] at h
      unfold wpOp
      rw [Array.getElem?_eq_getElem hlt]
      unfold wpList at h
      have hilt : i < listed.size := by omega
      have go : ∀ a w, wpList P ops Q (ops.toList.drop (i + 1)) a w → wpAny P .any ops Q fuel (listed.setIfInBounds i true) a w := fun a w hw =>
        ih (i + 1) _ a w (by omega) (by simpa using hls) (fun j hj hjs => by
          rcases Nat.eq_or_lt_of_le (Nat.le_of_lt_succ hj) with rfl | hj
          · simp [hilt]
          · exact getD_set_true (hlo j hj hjs)) (fun j hj hjs => by
          rw [getD_set_ne true (by omega)]
          exact hhi j (by omega) hjs) (count_set hilt (hhi i (Nat.le_refl _) hlt) hc) hw
      simp only at h ⊢
      split
      · rename_i hw
        rw [if_pos hw] at h
        rcases h with h | h
        · exact .inl (Oper.wp_mono go h)
        · exact .inr h
      · rename_i hw
        rw [if_neg hw] at h
        exact go _ _ h
/-- What is asked of a region's text: of the first m operations as of all in relOk; of the chain that it looks back. -/
def dstsM (ops : Array Oper) (m : Nat) : List Tmp := (ops.toList.take m).filterMap (·.dst)
def relOkM (ops : Array Oper) (m n : Nat) : Bool :=
  (dstsM ops m).all (· < n) && (dstsM ops m).Nodup && Region.noSelect ops &&
  (List.range ops.size).all fun i => match ops[i]? with
    | none => true
    | some o => (o.after.toList.all fun e => !Region.binds .any e || e.on < i) &&
      (!decide (i < m) || (o.looksAt ops).all fun t => !(dstsM ops m).contains t || o.after.toList.any fun e => useEdge e && ((ops[e.on]?).bind (·.dst) == some t))
theorem relOkM_parts {m n : Nat} (h : relOkM ops m n = true) : (∀ d ∈ dstsM ops m, d < n) ∧ (dstsM ops m).Nodup ∧ Region.noSelect ops = true ∧
    ∀ (i : Nat) o, ops[i]? = some o → (∀ e ∈ o.after, Region.binds .any e = true → e.on < i) ∧ (i < m → ∀ t ∈ o.looksAt ops, t ∉ dstsM ops m ∨ ∃ e ∈ o.after.toList, useEdge e = true ∧ (ops[e.on]?).bind (·.dst) = some t) := by
  unfold relOkM at h
  simp only [Bool.and_eq_true, List.all_eq_true, decide_eq_true_eq] at h
  obtain ⟨⟨⟨h1, h2⟩, h3⟩, h4⟩ := h
  refine ⟨h1, h2, h3, fun i o hi => ?_⟩
  have hlt : i < ops.size := (Array.getElem?_eq_some_iff.1 hi).1
  have h5 := h4 i (List.mem_range.2 hlt)
  rw [hi] at h5
  simp only [Bool.and_eq_true, List.all_eq_true, Bool.or_eq_true, Bool.not_eq_true', decide_eq_true_eq, List.any_eq_true, beq_iff_eq, decide_eq_false_iff_not] at h5
  obtain ⟨h6, h7⟩ := h5
  refine ⟨fun e he hb => ?_, fun him t ht => ?_⟩
  · rcases h6 e (by simpa using he) with h8 | h8
    · rw [hb] at h8; cases h8
    · exact h8
  · rcases (h7.resolve_left (by omega)) t ht with h8 | h8
    · left
      intro hm
      have : (dstsM ops m).contains t = true := by simpa using hm
      rw [h8] at this; cases this
    · exact .inr h8
theorem dstM_mem {i m : Nat} {o : Oper} {d : Tmp} (him : i < m) (hi : ops[i]? = some o) (hd : o.dst = some d) : d ∈ dstsM ops m :=
  List.mem_filterMap.2 ⟨o, by
    rw [List.mem_take_iff_getElem]
    have := (Array.getElem?_eq_some_iff.1 hi)
    refine ⟨i, by rw [Array.length_toList]; have := this.1; omega, ?_⟩
    rw [← this.2]; simp, hd⟩
theorem take_at {i m : Nat} {o : Oper} (him : i < m) (hi : ops[i]? = some o) : (ops.toList.take m)[i]? = some o := by
  rw [List.getElem?_take, if_pos him, Array.getElem?_toList]; exact hi
theorem relU_sound {a0 : Act} {m : Nat} {Vf : List (Value → World → Prop)} {Q : Exit → Act → World → Prop} (hok : relOkM ops m a0.tmps.size = true) (ht : tailsOk ops m = true) (hA : RelAllT P ops m I R a0 Vf) (hR : ∀ w, R w w)
    (hend : ∀ a w, I w → a.defers = a0.defers → a.tmps.size = a0.tmps.size → (∀ t, t ∉ (ops.toList.take m).filterMap (·.dst) → a.tmps[t]? = a0.tmps[t]?) →
      (∀ (j : Nat) p, j < m → ops[j]? = some p → ∃ v, (Vf.getD j (fun _ _ => False)) v w ∧ ∀ d, p.dst = some d → a.tmps[d]? = some v) → wpList P ops Q (ops.toList.drop m) a w) :
    ∀ (fuel : Nat) (listed : Array Bool) (a : Act) (w : World), listed.toList.count false ≤ fuel → (∀ j, m ≤ j → j < ops.size → listed.getD j true = false) → (∀ (i : Nat) o, ops[i]? = some o → listed.getD i false = true → ∀ e ∈ o.after, Region.binds .any e = true → listed.getD e.on false = true) → I w → a.defers = a0.defers → a.tmps.size = a0.tmps.size → listed.size = ops.size →
      (∀ t, t ∉ (ops.toList.take m).filterMap (·.dst) → a.tmps[t]? = a0.tmps[t]?) →
      (∀ (j : Nat) p, j < m → ops[j]? = some p → listed.getD j false = true → ∃ v, (Vf.getD j (fun _ _ => False)) v w ∧ ∀ d, p.dst = some d → a.tmps[d]? = some v) → wpAny P .any ops Q fuel listed a w := by
  obtain ⟨hd, hn, hsel, hpart⟩ := relOkM_parts hok
  obtain ⟨hmsz, hwait, hch⟩ := tailsOk_parts ht
  have noReady : ∀ (listed : Array Bool), listed.getD m true = false → listed.size = ops.size → Region.ready .any ops listed = [] → False := by
    intro listed hm hls hr
    have all : ∀ j, j < ops.size → listed.getD j false = true := by
      intro j
      induction j using Nat.strongRecOn with
      | _ j ih =>
        intro hj
        by_cases hf : listed.getD j false = true
        · exact hf
        · exfalso
          have hjl : j < listed.size := by rw [hls]; exact hj
          have hft : listed.getD j true = false := by
            simp [Array.getElem?_eq_getElem hjl] at hf ⊢
            exact hf
          have : j ∈ Region.ready .any ops listed := mem_ready.2 ⟨hft, ops[j], Array.getElem?_eq_getElem hj, fun e he hb => by
            have := (hpart j _ (Array.getElem?_eq_getElem hj)).1 e he hb
            exact ih e.on this (by omega)⟩
          rw [hr] at this
          cases this
    have h1 := all m (by omega)
    have hml := getD_false_of hm
    simp [Array.getElem?_eq_getElem hml] at hm h1
    rw [hm] at h1; cases h1
  intro fuel
  induction fuel with
  | zero =>
    intro listed a w hc hm0 _ hI _ _ hls _ _
    exfalso
    have hm := hm0 m (Nat.le_refl _) hmsz
    have hml := getD_false_of hm
    have hz : listed.toList.count false = 0 := by omega
    rw [List.count_eq_zero] at hz
    apply hz
    have e : listed[m] = false := by simpa [Array.getElem?_eq_getElem hml] using hm
    rw [← e]
    simp
  | succ fuel ih =>
    intro listed a w hc hm hdown hI hdef hsize hls hrest hvals
    by_cases hmr : m ∈ Region.ready .any ops listed
    · obtain ⟨_, om, hom, hafterm⟩ := mem_ready.1 hmr
      have hall : ∀ d j, m - j ≤ d → j < m → listed.getD j false = true := by
        intro d
        induction d with
        | zero => intro j h1 h2; omega
        | succ d ihd =>
          intro j h1 h2
          obtain ⟨i, hji, him, hon⟩ := hwait j h2
          obtain ⟨o, ho, e, he, hb, hej⟩ := onAt_parts hon
          rcases Nat.eq_or_lt_of_le him with rfl | him
          · rw [hom] at ho
            injection ho with ho
            subst ho
            rw [← hej]; exact hafterm e he hb
          · have := ihd i (by omega) him
            rw [← hej]; exact hdown i o ho this e he hb
      exact chain_sound (fun i o hi => (hpart i o hi).1) hch (fuel + 1) m listed a w (Nat.le_refl _) hls (fun j hj _ => hall _ j (Nat.le_refl _) hj) hm hc (hend a w hI hdef hsize hrest (fun j p hj hp => hvals j p hj hp (hall _ j (Nat.le_refl _) hj)))
    refine ⟨fun hr => (noReady listed (hm m (Nat.le_refl _) hmsz) hls hr).elim, fun i hi => ?_⟩
    have him : i ≠ m := fun e => hmr (e ▸ hi)
    obtain ⟨h0, o, ho, hafter⟩ := mem_ready.1 hi
    have hil := getD_false_of h0
    have hlt : i < ops.size := (Array.getElem?_eq_some_iff.1 ho).1
    have him' : i < m := by
      rcases Nat.lt_or_ge i m with h | h
      · exact h
      · exfalso
        obtain ⟨o', ho', e, he, hb, hon⟩ := onAt_parts (hch (i - 1) (by omega) (by omega))
        rw [show i - 1 + 1 = i by omega, ho] at ho'
        injection ho' with ho'
        subst ho'
        have h1 := hafter e he hb
        rw [hon] at h1
        have h2 := hm (i - 1) (by omega) (by omega)
        have hjl : i - 1 < listed.size := by omega
        simp [Array.getElem?_eq_getElem hjl] at h1 h2
        rw [h2] at h1; cases h1
    obtain ⟨hback, hlook⟩ := hpart i o ho
    have hvs : ∃ vs : Nat → Value, ∀ (j : Nat) p, j < m → ops[j]? = some p → listed.getD j false = true → (Vf.getD j (fun _ _ => False)) (vs j) w ∧ ∀ d, p.dst = some d → a.tmps[d]? = some (vs j) := by
      refine Classical.axiomOfChoice (r := fun j v => ∀ p, j < m → ops[j]? = some p → listed.getD j false = true → (Vf.getD j (fun _ _ => False)) v w ∧ ∀ d, p.dst = some d → a.tmps[d]? = some v) fun j => ?_
      cases hp : ops[j]? with
      | none => exact ⟨undef, fun p _ h => by cases h⟩
      | some p =>
        by_cases hl : listed.getD j false = true
        · by_cases hjm : j < m
          · obtain ⟨v, h1, h2⟩ := hvals j p hjm hp hl
            exact ⟨v, fun p' _ h _ => by injection h with h; subst h; exact ⟨h1, h2⟩⟩
          · exact ⟨undef, fun p' h => absurd h hjm⟩
        · exact ⟨undef, fun p' _ _ h => absurd h hl⟩
    obtain ⟨vs, hvs⟩ := hvs
    have hlisted : ∀ e ∈ o.after.toList, useEdge e = true → listed.getD e.on false = true := fun e he hu => hafter e (by simpa using he) (useEdge_binds hu)
    have hbk : ∀ e ∈ o.after.toList, useEdge e = true → e.on < i := fun e he hu => hback e (by simpa using he) (useEdge_binds hu)
    have hdeps := relDeps_at (ops := ops) (Vs := Vf.take i) (w := w) vs o.after.toList a0 (fun e he hu p hp => by
      have hlt := hbk e he hu
      have e1 : (Vf.take i).getD e.on (fun _ _ => False) = Vf.getD e.on (fun _ _ => False) := by
        rw [List.getD, List.getD, List.getElem?_take, if_pos hlt]
      rw [e1]
      exact (hvs e.on p (by omega) hp (hlisted e he hu)).1) (hA.step i o him' ho w hI)
    generalize hcan : o.after.toList.foldl (fun a e => if useEdge e = true then a.put ((ops[e.on]?).bind (·.dst)) (vs e.on) else a) a0 = can at hdeps
    have hsame : ∀ t ∈ o.looksAt ops, can.tmps[t]? = a.tmps[t]? := by
      intro t ht
      rw [← hcan]
      refine fold_tmps (ops := ops) vs a o.after.toList a0 hsize.symm (fun e he hu d hd' => ?_) t ?_
      · cases hp : ops[e.on]? with
        | none => rw [hp] at hd'; cases hd'
        | some p =>
          rw [hp] at hd'
          have := hbk e he hu
          exact (hvs e.on p (by omega) hp (hlisted e he hu)).2 d hd'
      · rcases hlook him' t ht with h | h
        · exact .inl (hrest t h)
        · exact .inr h
    have hsl : ∀ cs b, o.op ≠ .select cs b := fun cs b => Region.noSelect_spec hsel i o cs b ho
    obtain ⟨he1, he2⟩ := same_step (ops := ops) hsl hsame
    have hstep : relStep P ops o I R (Vf.getD i (fun _ _ => False)) w a := by
      unfold relStep at hdeps ⊢
      rw [← he1, ← he2]
      exact hdeps
    refine wpOp_of_rel ho hstep (fun v w' hv hI' hRw => ih _ _ _ (count_set hil h0 hc) (fun j hj hjs => by rw [getD_set_ne true (by omega)]; exact hm j hj hjs) (fun i' o' ho' hl' e he hb => by
      by_cases hii : i = i'
      · subst hii
        rw [ho] at ho'
        injection ho' with ho'
        subst ho'
        exact getD_set_true (hafter e he hb)
      · rw [getD_set_ne false hii] at hl'
        exact getD_set_true (hdown i' o' ho' hl' e he hb)) hI' (by rw [put_defers', hdef]) (by rw [put_size, hsize]) (by simpa using hls) (fun t ht => ?_) (fun j p hj hp hl => ?_)) hI (hR w)
    · cases hdo : o.dst with
      | none => exact hrest t ht
      | some d =>
        have hdm := dstM_mem him' ho hdo
        have hdt : d ≠ t := fun e => ht (e ▸ hdm)
        rw [put_tmps _ _ _ _ (by rw [hsize]; exact hd d hdm), if_neg hdt]
        exact hrest t ht
    · by_cases hij : i = j
      · subst hij
        rw [ho] at hp
        injection hp with hp
        subst hp
        refine ⟨v, hv, fun d hdo => ?_⟩
        rw [hdo, put_tmps _ _ _ _ (by rw [hsize]; exact hd d (dstM_mem him' ho hdo)), if_pos rfl]
      · rw [getD_set_ne false hij] at hl
        obtain ⟨u, hu, hud⟩ := hvals j p hj hp hl
        refine ⟨u, ?_, fun d hdp => ?_⟩
        · rcases hVj : Vf[j]? with _ | Vj
          · rw [List.getD, hVj] at hu; exact hu.elim
          · rw [List.getD, hVj] at hu ⊢
            exact hA.stable Vj (List.mem_of_getElem? hVj) _ _ _ hRw hu
        · cases hdo : o.dst with
          | none => exact hud d hdp
          | some d' =>
            have hne : d' ≠ d := by
              rintro rfl
              exact hij (nodup_dst _ hn i j o p d' (take_at him' ho) (take_at hj hp) hdo hdp)
            rw [put_tmps _ _ _ _ (by rw [hsize]; exact hd d' (dstM_mem him' ho hdo)), if_neg hne]
            exact hud d hdp
/-- A region that draws its order, behind m of its operations a chain. -/
theorem wp_region_tails {id : Nat} {Q : Exit → Act → World → Prop} {a : Act} {w : World} {l : List Oper} (m : Nat) (l1 l2 : List Oper) (I : World → Prop) (R : World → World → Prop) (h1 : l.take m = l1) (h2 : l.drop m = l2) (hm : P.follows .mixedOrders = true) (hok : relOkM l.toArray m a.tmps.size = true)
    (ht : tailsOk l.toArray m = true) (hR : ∀ w, R w w) (h0 : I w.drew)
    (h : wpRel P l.toArray I R a (fun Vs => ∀ w', I w' → relEnd w' (fun a' w'' => wpList P l.toArray Q l2 a' w'') l1 Vs a) l1 []) : (Code.region id l.toArray true).wp P Q a w := by
  have hsz := (tailsOk_parts ht).1
  have hlen : m < l.length := by simpa using hsz
  subst h1 h2
  obtain ⟨Vf, hA, hK⟩ := relAllT_of (P := P) (ops := l.toArray) a m (l.take m) [] (fun j hj => by
    rw [List.length_take] at hj
    simp only [List.length_nil, Nat.zero_add, List.getElem?_toArray]
    rw [List.getElem?_take, if_pos (by omega)]) (by simp; omega) (by simp) (by simp) h
  refine wp_region_any hm (relU_sound hok ht hA hR (fun a' w' hI hdef hsize hrest hvals => ?_) _ _ _ _ ?_ (fun j _ hj => by have : j < l.length := by simpa using hj
                                                                                                                            simp [this]) (fun i o ho hl => ?_) h0 rfl rfl (by simp) (fun _ _ => rfl) (fun j p hj hp hl => ?_))
  · have hvs : ∃ vs : Nat → Value, ∀ (j : Nat) p, j < m → l.toArray[j]? = some p → (Vf.getD j (fun _ _ => False)) (vs j) w' ∧ ∀ d, p.dst = some d → a'.tmps[d]? = some (vs j) := by
      refine Classical.axiomOfChoice (r := fun j v => ∀ p, j < m → l.toArray[j]? = some p → (Vf.getD j (fun _ _ => False)) v w' ∧ ∀ d, p.dst = some d → a'.tmps[d]? = some v) fun j => ?_
      cases hp : l.toArray[j]? with
      | none => exact ⟨undef, fun p _ h => by cases h⟩
      | some p =>
        by_cases hjm : j < m
        · obtain ⟨v, h1, h2⟩ := hvals j p hjm hp
          exact ⟨v, fun p' _ h => by injection h with h; subst h; exact ⟨h1, h2⟩⟩
        · exact ⟨undef, fun p' h => absurd h hjm⟩
    obtain ⟨vs, hvs⟩ := hvs
    have hK' := hK w' hI
    refine relEnd_at (K := fun a' w'' => wpList P l.toArray Q (l.drop m) a' w'') a' vs (l.take m) Vf 0 a (by rw [hA.len, List.length_take]; omega) (fun j V hV => ?_) hdef.symm hsize.symm (fun j p d hj hd => ?_) (fun t ht => (hrest t (by simpa using ht)).symm) hK'
    · have hj : j < m := by rw [← hA.len]; exact (List.getElem?_eq_some_iff.1 hV).1
      have hjl : j < l.length := by omega
      have := (hvs j l[j] hj (by simp [hjl])).1
      rw [List.getD, hV] at this
      rw [Nat.zero_add]
      exact this
    · have hjm : j < m := by
        have := (List.getElem?_eq_some_iff.1 hj).1
        rw [List.length_take] at this; omega
      rw [Nat.zero_add]
      refine (hvs j p hjm ?_).2 d hd
      rw [List.getElem?_take, if_pos hjm] at hj
      simpa using hj
  · simp
  · exfalso
    have hi : i < l.length := by
      have := (Array.getElem?_eq_some_iff.1 ho).1
      simpa using this
    simp [hi] at hl
  · exfalso
    have hj' : j < l.length := by omega
    simp [hj'] at hl
end
end Go.Proofs.YtphljjgjpkdpmaaGreatDoor
