/- Stage 6: a call of both: Purge. -/
import Derived.Test.YtpmfgjhkdokcbaaPoL
namespace Go.Proofs.Ytpmfgjhkdokcbaa
open Go.RowKit
set_option linter.unusedVariables false
theorem RowAt.chg2 {S : Nat → Prop} {w w' : World} {v : Value} {xs : List Value} (h : RowAt w v xs) (g : Chg S w w') (hn : xs ≠ [] → ∀ b, v.ownBlock = some b → ¬ S b) : RowAt w' v xs := by
  by_cases hx : xs = []
  · obtain ⟨a, cap, e, _⟩ := h
    exact ⟨a, cap, e, .inl hx⟩
  · exact h.chg g (hn hx)
theorem info_int06 : (Try.prog.info? 3).map (fun i => (i.zero, i.size, i.bytes)) = some (some (.int .i64 0), 1, 8) := by kernel_rfl
theorem own_empty06 (w : World) (e : TypeId) : (w.alloc (.cells #[] e)).ownsRow 0 e 1 (.slice (some ⟨w.heap.size, 0, none⟩) 0 0) 0 [] :=
  ⟨by simp, .inr ⟨w.heap.size, 0, #[], rfl, Nat.zero_le _, heap_alloc_new w _, Nat.le_refl _, Nat.zero_le _, by simp, by simp⟩⟩
theorem own_empty_at (w : World) (o : Obj) (e : TypeId) : ((w.alloc o).drew.alloc (.cells #[] e)).ownsRow 0 e 1 (.slice (some ⟨w.heap.size + 1, 0, none⟩) 0 0) 0 [] := by
  have := own_empty06 (w.alloc o).drew e
  simpa using this
theorem ones_int06 (l : List Int) : ∀ u ∈ l.map (Value.int .i64), u.oneCell' = true := by
  intro u hu
  obtain ⟨b, _, rfl⟩ := List.mem_map.1 hu
  rfl
set_option maxRecDepth 100000 in
set_option maxHeartbeats 4000000 in
theorem done_4 (b1 b2 : Nat) (v1 v2 : Value) (L : List Lt) (m : Nat) (o : Cl) (ns : List Int) (w : World) (h : Two w b1 v1 b2 v2 L m) (h1 : o.kind = 4) (hr : RowAt w o.n (ns.map (Value.int .i64))) (hl : ns.length ≤ 2000) (hvn : ns ≠ [] → ∀ g, o.n.ownBlock = some g → ¬ PS b1 v1 g) :
    Calls Try.prog 11 #[.pointer (some ⟨b1, 0, none⟩), .pointer (some ⟨b2, 0, none⟩), o.val] w fun e w' => e = .returned (.bool true) ∧ TwoEnd b1 v1 b2 v2 (purgeR ns L) m w w' := by
  obtain ⟨kind, k, l, vn⟩ := o
  obtain rfl : kind = 4 := h1
  obtain ⟨xs, hxs⟩ : ∃ xs : List Value, xs = [.int .i64 4, .int .i64 k, .int .i64 l.f, .int .i64 l.t, .string l.d, vn] := ⟨_, rfl⟩
  have gA : w.grownBy (w.alloc (.cells #[.int .i64 4, .int .i64 k, .int .i64 l.f, .int .i64 l.t, .string l.d, vn] 36)) none := World.grownBy_alloc _ _ _
  have hA := h.keep gA
  have HA := Lib.hid hA
  have H := Lib.hid h
  have GA := Lib.hid gA
  have hb1 := h.p1.lt
  have hb2 := h.p2.lt
  have hmm := h.p1.most
  have hml := h.p1.len
  clear hA h gA
  unfold Cl.val
  obtain ⟨i0, hi, hz0, hz1, hz2⟩ := info_parts info_int06
  have hlt1 : Hid (∀ g, v1.ownBlock = some g → g < w.heap.size) := fun g hg => H.out.p1.own.lt hg
  obtain ⟨av, cv, hvf⟩ := hr.len
  rw [List.length_map] at hvf
  subst hvf
  have HR := Lib.hid (hr.kept GA.out)
  have HVN := Lib.hid hvn
  have HNL := Lib.hid hl
  have HBX := Lib.hid (Blk.new w 36 [.int .i64 4, .int .i64 k, .int .i64 l.f, .int .i64 l.t, .string l.d, .slice av ns.length cv])
  have HSZ : Hid ((w.alloc (.cells #[.int .i64 4, .int .i64 k, .int .i64 l.f, .int .i64 l.t, .string l.d, .slice av ns.length cv] 36)).heap.size = w.heap.size + 1) := by show _ = _; simp
  clear hr hvn hl
  go_enter Try.func11, Try.ntmps11
  go_upto_region 14 with (fail)
  go_cut [75] (fun v wx => v = .bool false ∧ TwoEnd b1 v1 b2 v2 (purgeR ns L) m (w.alloc (.cells #[.int .i64 4, .int .i64 k, .int .i64 l.f, .int .i64 l.t, .string l.d, .slice av ns.length cv] 36)) wx)
  case first =>
    have hb := HA.out.p1.lt
    clear GA H hxs xs
    generalize hwA : (w.alloc (.cells #[.int .i64 4, .int .i64 k, .int .i64 l.f, .int .i64 l.t, .string l.d, .slice av ns.length cv] 36)) = wA at HA HR HBX HSZ hb ⊢
    have HWA := Lib.hid hwA
    clear hwA
    obtain ⟨q, hq⟩ : ∃ q, q = w.heap.size := ⟨_, rfl⟩
    rw [← hq] at HBX HSZ hlt1 hb1 hb2 ⊢
    have HQQ := Lib.hid hq
    clear hq
    have k5 := HBX.out.cell 5 (by simp)
    simp only [List.getD_cons_zero, List.getD_cons_succ] at k5
    have hq1 : q < wA.heap.size := HBX.out.lt
    obtain ⟨z, hz⟩ : ∃ z, z = wA.heap.size := ⟨_, rfl⟩
    have oE : (wA.drew.alloc (.cells #[] 3)).ownsRow 0 3 1 (.slice (some ⟨wA.heap.size, 0, none⟩) 0 0) 0 [] := own_empty06 wA.drew _
    have rA := HR.out.kept (grow_drawn (World.grownBy_alloc wA (.cells #[] 3) none))
    have rA' : RowAt (wA.drew.alloc (.cells #[] 3)) (.slice av ns.length cv) (ns.map (Value.int .i64)) := rA
    have OE := Lib.hid oE
    have RA := Lib.hid rA'
    clear rA rA' oE hz z hb
    go_region_law (first
      | ((with_reducible show (if Region.wanted (Oper.mk _ (Op.call { callee := .builtin .append, args := _, argTypes := _ }) _ _ _ _) _ = true then _ else _)); refine step_append_row (.tmp 66) (.tmp 68) 34 (by with_reducible rfl) 3 i0 (.int .i64 0) 8 Try.underlying34 hi hz0 hz1 hz2 rfl _ _ _ rfl OE.out _ (ns.map (Value.int .i64)) rfl RA.out (ones_int06 ns) (by rw [List.length_map]; have := HNL.out; show _ ≤ 2^63-1; omega) (by rw [List.length_map]; have := HNL.out; omega) rfl ?_; intro v3 w5 o3 g5 mv3; have X5 := Lib.hid (grow_newblk (grow_drawn (World.grownBy_alloc wA (.cells #[] 3) none)) (newblk_at wA wA.heap.size 0 0 (Nat.le_refl _) 0) g5); have N5 := Lib.hid ((newblk_at wA wA.heap.size 0 0 (Nat.le_refl _) 0).moved (grow_drawn (World.grownBy_alloc wA (.cells #[] 3) none)).size mv3); have O3 := Lib.hid (RowAt.of_own o3); have k55 := (HBX.out.keep X5.out).cell 5 (by simp); clear g5 mv3 o3)
      | ((with_reducible show (if Region.wanted (Oper.mk _ (Op.call { callee := .value (.func 19), args := _, argTypes := _ }) _ _ _ _) _ = true then _ else _)); refine step_wanted rfl ?_; go_simp; go_at_call 19; refine (Purge_any 58 b1 v1 L m _ ns _ (HA.out.keep X5.out).p1 (by simpa using O3.out) (by have := HNL.out; show _ ≤ 2^63-1; omega) (fun g hg hg' => by have := N5.out g hg; have := hlt1.out g hg'; omega)).mono ?_; rintro e w3 ⟨rfl, E1⟩; obtain ⟨v1a, p1a, p2a, cc1, st⟩ := (HA.out.keep X5.out).step E1; have P2A := Lib.hid p2a; have ST := Lib.hid st; have hB3 := cc1.blk (HBX.out.keep X5.out) (fun x => by rcases x with x | x; (omega); (have := hlt1.out _ x; omega)); have k56 := hB3.cell 5 (by simp); have RB := Lib.hid ((HR.out.kept X5.out).chg2 cc1 (fun x => HVN.out (by intro e; rw [e] at x; exact x rfl))); clear E1 p1a p2a cc1 st hB3)
      | ((with_reducible show (if Region.wanted (Oper.mk _ (Op.call { callee := .value (.func 23), args := _, argTypes := _ }) _ _ _ _) _ = true then _ else _)); refine step_wanted rfl ?_; go_simp; go_at_call 23; refine (refPurge_any 48 b2 v2 L m _ ns _ P2A.out RB.out (by have := HNL.out; show _ ≤ 2^63-1; omega)).mono ?_; rintro e w4 ⟨rfl, E2⟩; have hE := Lib.hid (TwoEnd.front X5.out (ST.out w4 E2)); clear E2))
    all_goals
      go_wp2
      have hq := HQQ.out
      subst hq
      go_meet
      exact ⟨rfl, by rw [HWA.out]; exact hE.out⟩
  case rest =>
   obtain ⟨rfl, hE⟩ := hcut
   have hB := Two.noBlk (xs := [.int .i64 4, .int .i64 k, .int .i64 l.f, .int .i64 l.t, .string l.d, .slice av ns.length cv]) H.out hE
   have k1 := hB.cell 1 (by simp)
   have HE := Lib.hid (TwoEnd.front GA.out hE)
   obtain ⟨v1', v2', T, _⟩ := hE
   have HT := Lib.hid T
   have HB := Lib.hid hB
   obtain ⟨L', hL'⟩ : ∃ L', L' = purgeR ns L := ⟨_, rfl⟩
   rw [← hL'] at HT HE
   have HLE := Lib.hid hL'
   clear T hL' hB
   obtain ⟨x, hx⟩ : ∃ x, x = atL L' k := ⟨_, rfl⟩
   have HX := Lib.hid hx
   have he := lt_eql x
   obtain ⟨q, hq⟩ : ∃ q, q = kthB k L'.length := ⟨_, rfl⟩
   have HQ := Lib.hid hq
   have hli : (L'.length : Int) ≤ 512 := by have := HT.out.p1.len; omega
   clear hx hq
   go_wp2_with fail
   refine (At_any 58 b1 v1' L' m k _ HT.out.p1).mono ?_
   rintro e w5 ⟨rfl, g5⟩
   rw [← HX.out, ← HQ.out]
   have B5 := (HB.out.keep g5).alloc (.cells #[.int .i64 x.f, .int .i64 x.t, .string x.d] 33)
   have G5 := grow_none g5 (World.grownBy_alloc w5 (.cells #[.int .i64 x.f, .int .i64 x.t, .string x.d] 33) none)
   have k5 := B5.cell 1 (by simp)
   have k5' := (HB.out.keep g5).cell 1 (by simp)
   have hs5 : w.heap.size < w5.heap.size := (HB.out.keep g5).lt
   have G5' := Lib.hid G5
   have HA5 := Lib.hid (Blk.new w5 33 [.int .i64 x.f, .int .i64 x.t, .string x.d])
   clear G5 B5 g5
   unfold Lt.val
   go_wp2_with fail
   refine (refAt_any 48 b2 v2' L' m k _ (HT.out.p2.keep G5'.out)).mono ?_
   rintro e w6 ⟨rfl, g6⟩
   rw [← HX.out, ← HQ.out]
   have B6 := HA5.out.keep g6
   have hs6 : w5.heap.size < w6.heap.size := B6.lt
   have A0 := B6.cell 0 (by simp)
   have A1 := B6.cell 1 (by simp)
   have A2 := B6.cell 2 (by simp)
   have G6 := Lib.hid (grow_none G5'.out (grow_none g6 (World.grownBy_alloc w6 (.cells #[.int .i64 x.f, .int .i64 x.t, .string x.d] 33) none)))
   have P6 := Lib.hid (HT.out.keep G6.out)
   obtain ⟨p', c', hv2⟩ := P6.out.p2.form
   have d0 := P6.out.p2.c0
   rw [hv2] at d0
   have d0' := (HT.out.p2.keep (grow_none G5'.out g6)).c0
   rw [hv2] at d0'
   have hb26 : b2 < w6.heap.size := (HT.out.p2.keep (grow_none G5'.out g6)).lt
   have HV2 := Lib.hid hv2
   have eq1 : ((q : Bool) == q) = true := by simp
   have eq2 : ((L'.length : Int) == (L'.length : Int)) = true := by simp
   clear B6 g6 hv2
   unfold Lt.val
   go_wp2
   go_quiet ((go_at_call 15; exact Calls.quiet_of_same ((Len_any 58 b1 v1' L' m _ (P6.out.p1.drewN _)).mono fun _ _ ⟨x, y⟩ => ⟨x, y.symm⟩)))
   go_wp2
   go_ret
   have hfin := HE.out.back (grow_drawnN nq G6.out)
   rw [HLE.out] at hfin
   exact ⟨rfl, hfin⟩
end Go.Proofs.Ytpmfgjhkdokcbaa
