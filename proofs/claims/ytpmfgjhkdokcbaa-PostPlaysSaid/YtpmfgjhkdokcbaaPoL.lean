/- Stage 6: a call of both. -/
import Derived.Test.YtpmfgjhkdokcbaaPoK
namespace Go.Proofs.Ytpmfgjhkdokcbaa
open Go.RowKit
set_option linter.unusedVariables false
/-- The package's post and the document's have the same letters, and nothing in common. -/
structure Two (w : World) (b1 : Nat) (v1 : Value) (b2 : Nat) (v2 : Value) (L : List Lt) (m : Nat) : Prop where
  p1 : PAt 58 w b1 v1 L m
  p2 : PAt 48 w b2 v2 L m
  ne : b1 ≠ b2
  a1 : v1.ownBlock ≠ some b2
  a2 : v2.ownBlock ≠ some b1
  a3 : ∀ g, v1.ownBlock = some g → v2.ownBlock ≠ some g
def PT (b1 : Nat) (v1 : Value) (b2 : Nat) (v2 : Value) : Nat → Prop := fun i => PS b1 v1 i ∨ PS b2 v2 i
def TwoEnd (b1 : Nat) (v1 : Value) (b2 : Nat) (v2 : Value) (L' : List Lt) (m : Nat) (w w' : World) : Prop :=
  ∃ v1' v2', Two w' b1 v1' b2 v2' L' m ∧ Chg (PT b1 v1 b2 v2) w w' ∧ Kept w.heap.size v1 v1' ∧ Kept w.heap.size v2 v2'
section
variable {w w1 w' : World} {b1 b2 m : Nat} {v1 v2 : Value} {L L' : List Lt}
theorem Two.keep (h : Two w b1 v1 b2 v2 L m) (g : w.grownBy w' none) : Two w' b1 v1 b2 v2 L m := ⟨h.p1.keep g, h.p2.keep g, h.ne, h.a1, h.a2, h.a3⟩
theorem TwoEnd.same (h : Two w b1 v1 b2 v2 L m) (g : w.grownBy w' none) : TwoEnd b1 v1 b2 v2 L m w w' := ⟨v1, v2, h.keep g, Chg.of_none g, Kept.refl _ _, Kept.refl _ _⟩
theorem TwoEnd.front (g : w.grownBy w1 none) (h : TwoEnd b1 v1 b2 v2 L m w1 w') : TwoEnd b1 v1 b2 v2 L m w w' := by
  obtain ⟨v1', v2', h1, h2, h3, h4⟩ := h
  exact ⟨v1', v2', h1, (Chg.of_none g (S := PT b1 v1 b2 v2)).trans h2 (fun _ _ h => h), h3.mono g.size, h4.mono g.size⟩
theorem TwoEnd.back (h : TwoEnd b1 v1 b2 v2 L m w w1) (g : w1.grownBy w' none) : TwoEnd b1 v1 b2 v2 L m w w' := by
  obtain ⟨v1', v2', h1, h2, h3, h4⟩ := h
  exact ⟨v1', v2', h1.keep g, h2.trans (Chg.of_none g (S := PT b1 v1 b2 v2)) (fun _ _ h => h), h3, h4⟩
theorem Two.step (h : Two w b1 v1 b2 v2 L m) (e : PEnd 58 b1 v1 L' m w w1) :
    ∃ v1', PAt 58 w1 b1 v1' L' m ∧ PAt 48 w1 b2 v2 L m ∧ Chg (PS b1 v1) w w1 ∧ ∀ w2, PEnd 48 b2 v2 L' m w1 w2 → TwoEnd b1 v1 b2 v2 L' m w w2 := by
  obtain ⟨v1', p, c, k⟩ := e
  have hb2 := h.p2.lt
  have hb1 := h.p1.lt
  have n1 : ¬ PS b1 v1 b2 := by
    rintro (e | e)
    · exact h.ne e.symm
    · exact h.a1 e
  have n2 : ∀ g, v2.ownBlock = some g → ¬ PS b1 v1 g := by
    rintro g hg (e | e)
    · exact h.a2 (by rw [hg, e])
    · exact h.a3 g e hg
  have q2 := h.p2.chg c n1 n2
  refine ⟨v1', p, q2, c, fun w2 e2 => ?_⟩
  obtain ⟨v2', p', c', k'⟩ := e2
  have s1 : v1'.ownBlock ≠ some b2 := by
    intro e
    rcases k b2 e with x | x
    · exact h.a1 x
    · omega
  have s2 : v2'.ownBlock ≠ some b1 := by
    intro e
    rcases k' b1 e with x | x
    · exact h.a2 x
    · have := c.size; omega
  have m1 : ¬ PS b2 v2 b1 := by
    rintro (e | e)
    · exact h.ne e
    · exact h.a2 e
  have m2 : ∀ g, v1'.ownBlock = some g → ¬ PS b2 v2 g := by
    rintro g hg (e | e)
    · exact s1 (by rw [hg, e])
    · rcases k g hg with x | x
      · exact h.a3 g x e
      · have := h.p2.own.lt e; omega
  refine ⟨v1', v2', ⟨p.chg c' m1 m2, p', h.ne, s1, s2, fun g hg hg' => ?_⟩, ?_, k, k'.mono c.size⟩
  · rcases k' g hg' with x | x
    · exact m2 g hg (.inr x)
    · have := p.own.lt hg; omega
  · exact (Chg.trans (S := PT b1 v1 b2 v2) ⟨c.os, c.tape, c.output, c.size, fun i hi hn => c.block i hi (fun x => hn (.inl x))⟩ c' (fun _ _ x => .inr x))
end
def stepL (L : List Lt) (m : Nat) (o : Cl) (ns : List Int) : List Lt :=
  if o.kind = 1 then sendL L m o.l else if o.kind = 2 then takeR L o.k else if o.kind = 3 then twinR L m o.k else if o.kind = 4 then purgeR ns L else L
def Cl.val (o : Cl) : Value := .agg #[.int .i64 o.kind, .int .i64 o.k, .int .i64 o.l.f, .int .i64 o.l.t, .string o.l.d, o.n]
/-- What the tail of done does. -/
theorem Two.noBlk {w w' : World} {b1 b2 m : Nat} {v1 v2 : Value} {L L' : List Lt} {T : TypeId} {xs : List Value} (h : Two w b1 v1 b2 v2 L m) (e : TwoEnd b1 v1 b2 v2 L' m (w.alloc (.cells xs.toArray T)) w') : Blk w' w.heap.size T xs := by
  obtain ⟨_, _, _, c, _, _⟩ := e
  refine c.blk (Blk.new w T xs) ?_
  have := h.p1.lt
  have := h.p2.lt
  rintro ((e | e) | (e | e))
  · omega
  · have := h.p1.own.lt e; omega
  · omega
  · have := h.p2.own.lt e; omega
theorem PEnd.noBlk {w w' : World} {b1 b2 m : Nat} {v1 v2 : Value} {L : List Lt} {T : TypeId} {xs : List Value} (h : Two w b1 v1 b2 v2 L m) (c : Chg (PS b1 v1) (w.alloc (.cells xs.toArray T)) w') : Blk w' w.heap.size T xs := by
  refine c.blk (Blk.new w T xs) ?_
  have := h.p1.lt
  rintro (e | e)
  · omega
  · have := h.p1.own.lt e; omega
set_option maxRecDepth 100000 in
set_option maxHeartbeats 4000000 in
theorem done_5 (b1 b2 : Nat) (v1 v2 : Value) (L : List Lt) (m : Nat) (o : Cl) (ns : List Int) (w : World) (h : Two w b1 v1 b2 v2 L m) (h1 : o.kind ≠ 1) (h2 : o.kind ≠ 2) (h3 : o.kind ≠ 3) (h4 : o.kind ≠ 4) :
    Calls Try.prog 11 #[.pointer (some ⟨b1, 0, none⟩), .pointer (some ⟨b2, 0, none⟩), o.val] w fun e w' => e = .returned (.bool true) ∧ TwoEnd b1 v1 b2 v2 (L) m w w' := by
  obtain ⟨kind, k, l, vn⟩ := o
  have q1 : (kind == 1) = false := by simpa using h1
  have q2 : (kind == 2) = false := by simpa using h2
  have q3 : (kind == 3) = false := by simpa using h3
  have q4 : (kind == 4) = false := by simpa using h4
  clear h1 h2 h3 h4
  obtain ⟨xs, hxs⟩ : ∃ xs : List Value, xs = [.int .i64 kind, .int .i64 k, .int .i64 l.f, .int .i64 l.t, .string l.d, vn] := ⟨_, rfl⟩
  have gA : w.grownBy (w.alloc (.cells #[.int .i64 kind, .int .i64 k, .int .i64 l.f, .int .i64 l.t, .string l.d, vn] 36)) none := World.grownBy_alloc _ _ _
  have hA := h.keep gA
  have HA := Lib.hid hA
  have H := Lib.hid h
  have GA := Lib.hid gA
  have hb1 := h.p1.lt
  have hb2 := h.p2.lt
  have hmm := h.p1.most
  have hml := h.p1.len
  clear hA h gA
  unfold Cl.val
  have hE := TwoEnd.same HA.out (grow_refl _ none)
  go_enter Try.func11, Try.ntmps11
  have hB := Two.noBlk (xs := [.int .i64 kind, .int .i64 k, .int .i64 l.f, .int .i64 l.t, .string l.d, vn]) H.out hE
  have k1 := hB.cell 1 (by simp)
  have HE := Lib.hid (TwoEnd.front GA.out hE)
  obtain ⟨v1', v2', T, _⟩ := hE
  have HT := Lib.hid T
  have HB := Lib.hid hB
  obtain ⟨L', hL'⟩ : ∃ L', L' = L := ⟨_, rfl⟩
  rw [← hL'] at HT HE
  have HLE := Lib.hid hL'
  clear T hL' hB
  obtain ⟨x, hx⟩ : ∃ x, x = atL L' k := ⟨_, rfl⟩
  have HX := Lib.hid hx
  have he := lt_eql x
  obtain ⟨q, hq⟩ : ∃ q, q = kthB k L'.length := ⟨_, rfl⟩
  have HQ := Lib.hid hq
  have hli : (L'.length : Int) ≤ 512 := by have := HT.out.p1.len; omega
  clear hx hq
  go_wp2_with fail
  refine (At_any 58 b1 v1' L' m k _ HT.out.p1).mono ?_
  rintro e w5 ⟨rfl, g5⟩
  rw [← HX.out, ← HQ.out]
  have B5 := (HB.out.keep g5).alloc (.cells #[.int .i64 x.f, .int .i64 x.t, .string x.d] 33)
  have G5 := grow_none g5 (World.grownBy_alloc w5 (.cells #[.int .i64 x.f, .int .i64 x.t, .string x.d] 33) none)
  have k5 := B5.cell 1 (by simp)
  have k5' := (HB.out.keep g5).cell 1 (by simp)
  have hs5 : w.heap.size < w5.heap.size := (HB.out.keep g5).lt
  have G5' := Lib.hid G5
  have HA5 := Lib.hid (Blk.new w5 33 [.int .i64 x.f, .int .i64 x.t, .string x.d])
  clear G5 B5 g5
  unfold Lt.val
  go_wp2_with fail
  refine (refAt_any 48 b2 v2' L' m k _ (HT.out.p2.keep G5'.out)).mono ?_
  rintro e w6 ⟨rfl, g6⟩
  rw [← HX.out, ← HQ.out]
  have B6 := HA5.out.keep g6
  have hs6 : w5.heap.size < w6.heap.size := B6.lt
  have A0 := B6.cell 0 (by simp)
  have A1 := B6.cell 1 (by simp)
  have A2 := B6.cell 2 (by simp)
  have G6 := Lib.hid (grow_none G5'.out (grow_none g6 (World.grownBy_alloc w6 (.cells #[.int .i64 x.f, .int .i64 x.t, .string x.d] 33) none)))
  have P6 := Lib.hid (HT.out.keep G6.out)
  obtain ⟨p', c', hv2⟩ := P6.out.p2.form
  have d0 := P6.out.p2.c0
  rw [hv2] at d0
  have d0' := (HT.out.p2.keep (grow_none G5'.out g6)).c0
  rw [hv2] at d0'
  have hb26 : b2 < w6.heap.size := (HT.out.p2.keep (grow_none G5'.out g6)).lt
  have HV2 := Lib.hid hv2
  have eq1 : ((q : Bool) == q) = true := by simp
  have eq2 : ((L'.length : Int) == (L'.length : Int)) = true := by simp
  clear B6 g6 hv2
  unfold Lt.val
  go_wp2
  go_quiet ((go_at_call 15; exact Calls.quiet_of_same ((Len_any 58 b1 v1' L' m _ (P6.out.p1.drewN _)).mono fun _ _ ⟨x, y⟩ => ⟨x, y.symm⟩)))
  go_wp2
  go_ret
  have hfin := HE.out.back (grow_drawnN nq G6.out)
  rw [HLE.out] at hfin
  exact ⟨rfl, hfin⟩
set_option maxRecDepth 100000 in
set_option maxHeartbeats 4000000 in
theorem done_2 (b1 b2 : Nat) (v1 v2 : Value) (L : List Lt) (m : Nat) (o : Cl) (ns : List Int) (w : World) (h : Two w b1 v1 b2 v2 L m) (h1 : o.kind = 2) :
    Calls Try.prog 11 #[.pointer (some ⟨b1, 0, none⟩), .pointer (some ⟨b2, 0, none⟩), o.val] w fun e w' => e = .returned (.bool true) ∧ TwoEnd b1 v1 b2 v2 (takeR L o.k) m w w' := by
  obtain ⟨kind, k, l, vn⟩ := o
  obtain rfl : kind = 2 := h1
  obtain ⟨xs, hxs⟩ : ∃ xs : List Value, xs = [.int .i64 2, .int .i64 k, .int .i64 l.f, .int .i64 l.t, .string l.d, vn] := ⟨_, rfl⟩
  have gA : w.grownBy (w.alloc (.cells #[.int .i64 2, .int .i64 k, .int .i64 l.f, .int .i64 l.t, .string l.d, vn] 36)) none := World.grownBy_alloc _ _ _
  have hA := h.keep gA
  have HA := Lib.hid hA
  have H := Lib.hid h
  have GA := Lib.hid gA
  have hb1 := h.p1.lt
  have hb2 := h.p2.lt
  have hmm := h.p1.most
  have hml := h.p1.len
  clear hA h gA
  unfold Cl.val
  obtain ⟨y, hy⟩ : ∃ y, y = atL L k := ⟨_, rfl⟩
  obtain ⟨tc, htc⟩ : ∃ tc, tc = takeC L k := ⟨_, rfl⟩
  have HY := Lib.hid hy
  have HTC := Lib.hid htc
  have hnq := lt_neq y
  have tq : (tc != tc) = false := by simp
  clear hy htc
  go_enter Try.func11, Try.ntmps11
  go_wp2_with fail
  refine (Take_any 58 b1 v1 L m k _ HA.out.p1).mono ?_
  rintro e w3 ⟨rfl, E1⟩
  rw [← HY.out, ← HTC.out]
  obtain ⟨v1a, p1a, p2a, c1, st⟩ := HA.out.step E1
  have hB3 := PEnd.noBlk (xs := [.int .i64 2, .int .i64 k, .int .i64 l.f, .int .i64 l.t, .string l.d, vn]) H.out c1
  have k3 := hB3.cell 1 (by simp)
  have hs3 : w.heap.size < w3.heap.size := hB3.lt
  have g4 : w3.grownBy (w3.alloc (.cells #[.int .i64 y.f, .int .i64 y.t, .string y.d] 33)) none := World.grownBy_alloc _ _ _
  have P2 := Lib.hid (p2a.keep g4)
  have P2A := Lib.hid p2a
  have ST := Lib.hid st
  clear E1 p1a p2a c1 st hB3
  unfold Lt.val
  go_wp2_with fail
  refine (refTake_any 48 b2 v2 L m k _ P2.out).mono ?_
  rintro e w4 ⟨rfl, E2⟩
  rw [← HY.out, ← HTC.out]
  have hB4 := PEnd.res (xs := [.int .i64 y.f, .int .i64 y.t, .string y.d]) P2A.out E2
  have A0 := hB4.cell 0 (by simp)
  have A1 := hB4.cell 1 (by simp)
  have A2 := hB4.cell 2 (by simp)
  have hs4 : w3.heap.size < w4.heap.size := hB4.lt
  have hE := (ST.out w4 (PEnd.front g4 E2)).back (World.grownBy_alloc w4 (.cells #[.int .i64 y.f, .int .i64 y.t, .string y.d] 33) none)
  have HE0 := Lib.hid hE
  clear hE E2 hB4 g4 k3
  unfold Lt.val
  go_upto_region 16 with (fail)
  have hE := HE0.out
  clear HE0 A0 A1 A2
  generalize w4.alloc (.cells #[.int .i64 y.f, .int .i64 y.t, .string y.d] 33) = W at hE ⊢
  have hB := Two.noBlk (xs := [.int .i64 2, .int .i64 k, .int .i64 l.f, .int .i64 l.t, .string l.d, vn]) H.out hE
  have k1 := hB.cell 1 (by simp)
  have HE := Lib.hid (TwoEnd.front GA.out hE)
  obtain ⟨v1', v2', T, _⟩ := hE
  have HT := Lib.hid T
  have HB := Lib.hid hB
  obtain ⟨L', hL'⟩ : ∃ L', L' = takeR L k := ⟨_, rfl⟩
  rw [← hL'] at HT HE
  have HLE := Lib.hid hL'
  clear T hL' hB
  obtain ⟨x, hx⟩ : ∃ x, x = atL L' k := ⟨_, rfl⟩
  have HX := Lib.hid hx
  have he := lt_eql x
  obtain ⟨q, hq⟩ : ∃ q, q = kthB k L'.length := ⟨_, rfl⟩
  have HQ := Lib.hid hq
  have hli : (L'.length : Int) ≤ 512 := by have := HT.out.p1.len; omega
  clear hx hq
  go_wp2_with fail
  refine (At_any 58 b1 v1' L' m k _ HT.out.p1).mono ?_
  rintro e w5 ⟨rfl, g5⟩
  rw [← HX.out, ← HQ.out]
  have B5 := (HB.out.keep g5).alloc (.cells #[.int .i64 x.f, .int .i64 x.t, .string x.d] 33)
  have G5 := grow_none g5 (World.grownBy_alloc w5 (.cells #[.int .i64 x.f, .int .i64 x.t, .string x.d] 33) none)
  have k5 := B5.cell 1 (by simp)
  have k5' := (HB.out.keep g5).cell 1 (by simp)
  have hs5 : w.heap.size < w5.heap.size := (HB.out.keep g5).lt
  have G5' := Lib.hid G5
  have HA5 := Lib.hid (Blk.new w5 33 [.int .i64 x.f, .int .i64 x.t, .string x.d])
  clear G5 B5 g5
  unfold Lt.val
  go_wp2_with fail
  refine (refAt_any 48 b2 v2' L' m k _ (HT.out.p2.keep G5'.out)).mono ?_
  rintro e w6 ⟨rfl, g6⟩
  rw [← HX.out, ← HQ.out]
  have B6 := HA5.out.keep g6
  have hs6 : w5.heap.size < w6.heap.size := B6.lt
  have A0 := B6.cell 0 (by simp)
  have A1 := B6.cell 1 (by simp)
  have A2 := B6.cell 2 (by simp)
  have G6 := Lib.hid (grow_none G5'.out (grow_none g6 (World.grownBy_alloc w6 (.cells #[.int .i64 x.f, .int .i64 x.t, .string x.d] 33) none)))
  have P6 := Lib.hid (HT.out.keep G6.out)
  obtain ⟨p', c', hv2⟩ := P6.out.p2.form
  have d0 := P6.out.p2.c0
  rw [hv2] at d0
  have d0' := (HT.out.p2.keep (grow_none G5'.out g6)).c0
  rw [hv2] at d0'
  have hb26 : b2 < w6.heap.size := (HT.out.p2.keep (grow_none G5'.out g6)).lt
  have HV2 := Lib.hid hv2
  have eq1 : ((q : Bool) == q) = true := by simp
  have eq2 : ((L'.length : Int) == (L'.length : Int)) = true := by simp
  clear B6 g6 hv2
  unfold Lt.val
  go_wp2
  go_quiet ((go_at_call 15; exact Calls.quiet_of_same ((Len_any 58 b1 v1' L' m _ (P6.out.p1.drewN _)).mono fun _ _ ⟨x, y⟩ => ⟨x, y.symm⟩)))
  go_wp2
  go_ret
  have hfin := HE.out.back (grow_drawnN nq G6.out)
  rw [HLE.out] at hfin
  exact ⟨rfl, hfin⟩
set_option maxRecDepth 100000 in
set_option maxHeartbeats 4000000 in
theorem done_1 (b1 b2 : Nat) (v1 v2 : Value) (L : List Lt) (m : Nat) (o : Cl) (ns : List Int) (w : World) (h : Two w b1 v1 b2 v2 L m) (h1 : o.kind = 1) :
    Calls Try.prog 11 #[.pointer (some ⟨b1, 0, none⟩), .pointer (some ⟨b2, 0, none⟩), o.val] w fun e w' => e = .returned (.bool true) ∧ TwoEnd b1 v1 b2 v2 (sendL L m o.l) m w w' := by
  obtain ⟨kind, k, l, vn⟩ := o
  obtain rfl : kind = 1 := h1
  obtain ⟨xs, hxs⟩ : ∃ xs : List Value, xs = [.int .i64 1, .int .i64 k, .int .i64 l.f, .int .i64 l.t, .string l.d, vn] := ⟨_, rfl⟩
  have gA : w.grownBy (w.alloc (.cells #[.int .i64 1, .int .i64 k, .int .i64 l.f, .int .i64 l.t, .string l.d, vn] 36)) none := World.grownBy_alloc _ _ _
  have hA := h.keep gA
  have HA := Lib.hid hA
  have H := Lib.hid h
  have GA := Lib.hid gA
  have hb1 := h.p1.lt
  have hb2 := h.p2.lt
  have hmm := h.p1.most
  have hml := h.p1.len
  clear hA h gA
  unfold Cl.val
  have HD := Lib.hid (HA.out.keep (grow_drawn (grow_refl _ none)))
  have GD : Hid ((w.alloc (.cells #[.int .i64 1, .int .i64 k, .int .i64 l.f, .int .i64 l.t, .string l.d, vn] 36)).grownBy (w.alloc (.cells #[.int .i64 1, .int .i64 k, .int .i64 l.f, .int .i64 l.t, .string l.d, vn] 36)).drew none) := grow_drawn (grow_refl _ none)
  go_enter Try.func11, Try.ntmps11
  go_upto_region 3 with (fail)
  go_cut [27] (fun v wx => v = .bool false ∧ TwoEnd b1 v1 b2 v2 (sendL L m l) m (w.alloc (.cells #[.int .i64 1, .int .i64 k, .int .i64 l.f, .int .i64 l.t, .string l.d, vn] 36)) wx)
  case first =>
    go_region_law (first
      | ((with_reducible show (if Region.wanted (Oper.mk _ (Op.call { callee := .value (.func 13), args := _, argTypes := _ }) _ _ _ _) _ = true then _ else _)); refine step_wanted rfl ?_; go_simp; go_at_call 13; refine (Send_any 58 rfl b1 v1 L m l _ HD.out.p1).mono ?_; rintro e w3 ⟨rfl, E1⟩; obtain ⟨v1a, p1a, p2a, cc1, st⟩ := HD.out.step E1; have hB3 := PEnd.noBlk (xs := [.int .i64 1, .int .i64 k, .int .i64 l.f, .int .i64 l.t, .string l.d, vn]) H.out ((Chg.of_none GD.out (S := PS b1 v1)).trans cc1 (fun _ _ h => h)); have k1 := hB3.cell 1 (by simp); have k2 := hB3.cell 2 (by simp); have k3 := hB3.cell 3 (by simp); have k4 := hB3.cell 4 (by simp); have k5 := hB3.cell 5 (by simp))
      | ((with_reducible show (if Region.wanted (Oper.mk _ (Op.call { callee := .value (.func 20), args := _, argTypes := _ }) _ _ _ _) _ = true then _ else _)); refine step_wanted rfl ?_; go_simp; go_at_call 20; refine (refSend_any 48 rfl b2 v2 L m l _ p2a).mono ?_; rintro e w4 ⟨rfl, E2⟩; have hE := TwoEnd.front GD.out (st w4 E2)))
    all_goals
      go_wp2
      go_meet
      exact ⟨rfl, hE⟩
  case rest =>
   obtain ⟨rfl, hE⟩ := hcut
   have hB := Two.noBlk (xs := [.int .i64 1, .int .i64 k, .int .i64 l.f, .int .i64 l.t, .string l.d, vn]) H.out hE
   have k1 := hB.cell 1 (by simp)
   have HE := Lib.hid (TwoEnd.front GA.out hE)
   obtain ⟨v1', v2', T, _⟩ := hE
   have HT := Lib.hid T
   have HB := Lib.hid hB
   obtain ⟨L', hL'⟩ : ∃ L', L' = sendL L m l := ⟨_, rfl⟩
   rw [← hL'] at HT HE
   have HLE := Lib.hid hL'
   clear T hL' hB
   obtain ⟨x, hx⟩ : ∃ x, x = atL L' k := ⟨_, rfl⟩
   have HX := Lib.hid hx
   have he := lt_eql x
   obtain ⟨q, hq⟩ : ∃ q, q = kthB k L'.length := ⟨_, rfl⟩
   have HQ := Lib.hid hq
   have hli : (L'.length : Int) ≤ 512 := by have := HT.out.p1.len; omega
   clear hx hq
   go_wp2_with fail
   refine (At_any 58 b1 v1' L' m k _ HT.out.p1).mono ?_
   rintro e w5 ⟨rfl, g5⟩
   rw [← HX.out, ← HQ.out]
   have B5 := (HB.out.keep g5).alloc (.cells #[.int .i64 x.f, .int .i64 x.t, .string x.d] 33)
   have G5 := grow_none g5 (World.grownBy_alloc w5 (.cells #[.int .i64 x.f, .int .i64 x.t, .string x.d] 33) none)
   have k5 := B5.cell 1 (by simp)
   have k5' := (HB.out.keep g5).cell 1 (by simp)
   have hs5 : w.heap.size < w5.heap.size := (HB.out.keep g5).lt
   have G5' := Lib.hid G5
   have HA5 := Lib.hid (Blk.new w5 33 [.int .i64 x.f, .int .i64 x.t, .string x.d])
   clear G5 B5 g5
   unfold Lt.val
   go_wp2_with fail
   refine (refAt_any 48 b2 v2' L' m k _ (HT.out.p2.keep G5'.out)).mono ?_
   rintro e w6 ⟨rfl, g6⟩
   rw [← HX.out, ← HQ.out]
   have B6 := HA5.out.keep g6
   have hs6 : w5.heap.size < w6.heap.size := B6.lt
   have A0 := B6.cell 0 (by simp)
   have A1 := B6.cell 1 (by simp)
   have A2 := B6.cell 2 (by simp)
   have G6 := Lib.hid (grow_none G5'.out (grow_none g6 (World.grownBy_alloc w6 (.cells #[.int .i64 x.f, .int .i64 x.t, .string x.d] 33) none)))
   have P6 := Lib.hid (HT.out.keep G6.out)
   obtain ⟨p', c', hv2⟩ := P6.out.p2.form
   have d0 := P6.out.p2.c0
   rw [hv2] at d0
   have d0' := (HT.out.p2.keep (grow_none G5'.out g6)).c0
   rw [hv2] at d0'
   have hb26 : b2 < w6.heap.size := (HT.out.p2.keep (grow_none G5'.out g6)).lt
   have HV2 := Lib.hid hv2
   have eq1 : ((q : Bool) == q) = true := by simp
   have eq2 : ((L'.length : Int) == (L'.length : Int)) = true := by simp
   clear B6 g6 hv2
   unfold Lt.val
   go_wp2
   go_quiet ((go_at_call 15; exact Calls.quiet_of_same ((Len_any 58 b1 v1' L' m _ (P6.out.p1.drewN _)).mono fun _ _ ⟨x, y⟩ => ⟨x, y.symm⟩)))
   go_wp2
   go_ret
   have hfin := HE.out.back (grow_drawnN nq G6.out)
   rw [HLE.out] at hfin
   exact ⟨rfl, hfin⟩
set_option maxRecDepth 100000 in
set_option maxHeartbeats 4000000 in
theorem done_3 (b1 b2 : Nat) (v1 v2 : Value) (L : List Lt) (m : Nat) (o : Cl) (ns : List Int) (w : World) (h : Two w b1 v1 b2 v2 L m) (h1 : o.kind = 3) :
    Calls Try.prog 11 #[.pointer (some ⟨b1, 0, none⟩), .pointer (some ⟨b2, 0, none⟩), o.val] w fun e w' => e = .returned (.bool true) ∧ TwoEnd b1 v1 b2 v2 (twinR L m o.k) m w w' := by
  obtain ⟨kind, k, l, vn⟩ := o
  obtain rfl : kind = 3 := h1
  obtain ⟨xs, hxs⟩ : ∃ xs : List Value, xs = [.int .i64 3, .int .i64 k, .int .i64 l.f, .int .i64 l.t, .string l.d, vn] := ⟨_, rfl⟩
  have gA : w.grownBy (w.alloc (.cells #[.int .i64 3, .int .i64 k, .int .i64 l.f, .int .i64 l.t, .string l.d, vn] 36)) none := World.grownBy_alloc _ _ _
  have hA := h.keep gA
  have HA := Lib.hid hA
  have H := Lib.hid h
  have GA := Lib.hid gA
  have hb1 := h.p1.lt
  have hb2 := h.p2.lt
  have hmm := h.p1.most
  have hml := h.p1.len
  clear hA h gA
  unfold Cl.val
  have HD := Lib.hid (HA.out.keep (grow_drawn (grow_refl _ none)))
  have GD : Hid ((w.alloc (.cells #[.int .i64 3, .int .i64 k, .int .i64 l.f, .int .i64 l.t, .string l.d, vn] 36)).grownBy (w.alloc (.cells #[.int .i64 3, .int .i64 k, .int .i64 l.f, .int .i64 l.t, .string l.d, vn] 36)).drew none) := grow_drawn (grow_refl _ none)
  go_enter Try.func11, Try.ntmps11
  go_upto_region 11 with (fail)
  go_cut [62] (fun v wx => v = .bool false ∧ TwoEnd b1 v1 b2 v2 (twinR L m k) m (w.alloc (.cells #[.int .i64 3, .int .i64 k, .int .i64 l.f, .int .i64 l.t, .string l.d, vn] 36)) wx)
  case first =>
    go_region_law (first
      | ((with_reducible show (if Region.wanted (Oper.mk _ (Op.call { callee := .value (.func 18), args := _, argTypes := _ }) _ _ _ _) _ = true then _ else _)); refine step_wanted rfl ?_; go_simp; go_at_call 18; refine (Twin_any 58 rfl b1 v1 L m k _ HD.out.p1).mono ?_; rintro e w3 ⟨rfl, E1⟩; obtain ⟨v1a, p1a, p2a, cc1, st⟩ := HD.out.step E1; have hB3 := PEnd.noBlk (xs := [.int .i64 3, .int .i64 k, .int .i64 l.f, .int .i64 l.t, .string l.d, vn]) H.out ((Chg.of_none GD.out (S := PS b1 v1)).trans cc1 (fun _ _ h => h)); have k1 := hB3.cell 1 (by simp); have k2 := hB3.cell 2 (by simp); have k3 := hB3.cell 3 (by simp); have k4 := hB3.cell 4 (by simp); have k5 := hB3.cell 5 (by simp))
      | ((with_reducible show (if Region.wanted (Oper.mk _ (Op.call { callee := .value (.func 22), args := _, argTypes := _ }) _ _ _ _) _ = true then _ else _)); refine step_wanted rfl ?_; go_simp; go_at_call 22; refine (refTwin_any 48 rfl b2 v2 L m k _ p2a).mono ?_; rintro e w4 ⟨rfl, E2⟩; have hE := TwoEnd.front GD.out (st w4 E2)))
    all_goals
      go_wp2
      go_meet
      exact ⟨rfl, hE⟩
  case rest =>
   obtain ⟨rfl, hE⟩ := hcut
   have hB := Two.noBlk (xs := [.int .i64 3, .int .i64 k, .int .i64 l.f, .int .i64 l.t, .string l.d, vn]) H.out hE
   have k1 := hB.cell 1 (by simp)
   have HE := Lib.hid (TwoEnd.front GA.out hE)
   obtain ⟨v1', v2', T, _⟩ := hE
   have HT := Lib.hid T
   have HB := Lib.hid hB
   obtain ⟨L', hL'⟩ : ∃ L', L' = twinR L m k := ⟨_, rfl⟩
   rw [← hL'] at HT HE
   have HLE := Lib.hid hL'
   clear T hL' hB
   obtain ⟨x, hx⟩ : ∃ x, x = atL L' k := ⟨_, rfl⟩
   have HX := Lib.hid hx
   have he := lt_eql x
   obtain ⟨q, hq⟩ : ∃ q, q = kthB k L'.length := ⟨_, rfl⟩
   have HQ := Lib.hid hq
   have hli : (L'.length : Int) ≤ 512 := by have := HT.out.p1.len; omega
   clear hx hq
   go_wp2_with fail
   refine (At_any 58 b1 v1' L' m k _ HT.out.p1).mono ?_
   rintro e w5 ⟨rfl, g5⟩
   rw [← HX.out, ← HQ.out]
   have B5 := (HB.out.keep g5).alloc (.cells #[.int .i64 x.f, .int .i64 x.t, .string x.d] 33)
   have G5 := grow_none g5 (World.grownBy_alloc w5 (.cells #[.int .i64 x.f, .int .i64 x.t, .string x.d] 33) none)
   have k5 := B5.cell 1 (by simp)
   have k5' := (HB.out.keep g5).cell 1 (by simp)
   have hs5 : w.heap.size < w5.heap.size := (HB.out.keep g5).lt
   have G5' := Lib.hid G5
   have HA5 := Lib.hid (Blk.new w5 33 [.int .i64 x.f, .int .i64 x.t, .string x.d])
   clear G5 B5 g5
   unfold Lt.val
   go_wp2_with fail
   refine (refAt_any 48 b2 v2' L' m k _ (HT.out.p2.keep G5'.out)).mono ?_
   rintro e w6 ⟨rfl, g6⟩
   rw [← HX.out, ← HQ.out]
   have B6 := HA5.out.keep g6
   have hs6 : w5.heap.size < w6.heap.size := B6.lt
   have A0 := B6.cell 0 (by simp)
   have A1 := B6.cell 1 (by simp)
   have A2 := B6.cell 2 (by simp)
   have G6 := Lib.hid (grow_none G5'.out (grow_none g6 (World.grownBy_alloc w6 (.cells #[.int .i64 x.f, .int .i64 x.t, .string x.d] 33) none)))
   have P6 := Lib.hid (HT.out.keep G6.out)
   obtain ⟨p', c', hv2⟩ := P6.out.p2.form
   have d0 := P6.out.p2.c0
   rw [hv2] at d0
   have d0' := (HT.out.p2.keep (grow_none G5'.out g6)).c0
   rw [hv2] at d0'
   have hb26 : b2 < w6.heap.size := (HT.out.p2.keep (grow_none G5'.out g6)).lt
   have HV2 := Lib.hid hv2
   have eq1 : ((q : Bool) == q) = true := by simp
   have eq2 : ((L'.length : Int) == (L'.length : Int)) = true := by simp
   clear B6 g6 hv2
   unfold Lt.val
   go_wp2
   go_quiet ((go_at_call 15; exact Calls.quiet_of_same ((Len_any 58 b1 v1' L' m _ (P6.out.p1.drewN _)).mono fun _ _ ⟨x, y⟩ => ⟨x, y.symm⟩)))
   go_wp2
   go_ret
   have hfin := HE.out.back (grow_drawnN nq G6.out)
   rw [HLE.out] at hfin
   exact ⟨rfl, hfin⟩
end Go.Proofs.Ytpmfgjhkdokcbaa
