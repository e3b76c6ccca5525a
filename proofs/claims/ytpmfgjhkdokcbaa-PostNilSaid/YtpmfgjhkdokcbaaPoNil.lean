/- The law PostNil: its walk. -/
import Derived.Test.YtpmfgjhkdokcbaaPoPlays
namespace Go.Proofs.Ytpmfgjhkdokcbaa
open Go.RowKit
set_option linter.unusedVariables false
theorem wpList_append_row_g {P : Program} (w : World) {ops : Array Oper} {rest : List Oper} {o : Oper} {a : Act} {Q : Exit → Act → World → Prop} (hw : Region.wanted o (yielded ops a.tmps) = true) (s x : Operand) (t : TypeId)
    (ho : o.op = .call { callee := .builtin .append, args := #[s, x], argTypes := #[t, t] })
    (e : TypeId) (i : TypeInfo) (z : Value) (bytes : Nat) (ht : P.underlying t = some (.slice e)) (hi : P.info? e = some i) (hz : i.zero = some z)
    (hsize : i.size = 1) (hby : i.bytes = bytes) (hzs : z.cells.size = 1)
    (v : Value) (n : Nat) (xs : List Value) (hs : a.eval s = v) (hown : w.ownsRow 0 e 1 v n xs)
    (vs : Value) (news : List Value) (hx : a.eval x = vs) (hr : RowAt w vs news) (h1 : ∀ u ∈ news, u.oneCell' = true)
    (h63 : n + news.length ≤ maxLen) (hbytes : (n + news.length) * bytes ≤ 140737488355328)
    (h : ∀ v' w', w'.ownsRow 0 e 1 v' (n + news.length) (xs ++ news) → w.grownBy w' v.ownBlock → Moved w v v' → wpList P ops Q rest (a.put o.dst v') w') : wpList P ops Q (o :: rest) a w := by
  obtain ⟨v', w', hrun, h2, h3, h4⟩ := run_append_row (P := P) w t o.type e i z bytes ht hi hz hsize hby hzs v n xs hown vs news hr h1 h63 hbytes
  refine wpList_step fun K hK => ?_
  rw [if_pos hw]
  unfold Oper.wp execOp
  simp only [ho, resolve, invoke, builtin, Sem.run_bind, Sem.run_pure, Result.andThen_ok, List.map_toArray, List.map_cons, List.map_nil, hs, hx, hrun]
  exact hK _ _ (h v' w' h2 h3 h4)
set_option maxRecDepth 100000 in
set_option maxHeartbeats 4000000 in
theorem law_PostNil (o : Cl) (ns : List Int) {w : World} (hok : ClOk w o ns) :
    Calls Try.prog 6 #[o.val] w fun e w' => e = .returned (.bool true) ∧ Below w.heap.size w w' := by
  obtain ⟨kd, k, l, n⟩ := o
  obtain ⟨an, cn, en⟩ := hok.1.len
  rw [List.length_map] at en
  dsimp only at en
  subst en
  have HOK := Lib.hid hok
  clear hok
  have he := lt_eql ⟨0, 0, ⟨#[]⟩⟩
  obtain ⟨i0, hi, hz0, hz1, hz2⟩ := info_parts info_int06
  unfold Cl.val
  go_enter Try.func6, Try.ntmps6
  go_wp2_with fail
  refine (At_nil k _).mono ?_
  rintro e w1 ⟨rfl, g1⟩
  have B1 := (Blk.new w 36 [.int .i64 kd, .int .i64 k, .int .i64 l.f, .int .i64 l.t, .string l.d, .slice an ns.length cn]).keep g1
  have hb1 := B1.lt
  have k1 := B1.cell 1 (by simp)
  have G1 := Lib.hid (grow_none (World.grownBy_alloc w (.cells #[.int .i64 kd, .int .i64 k, .int .i64 l.f, .int .i64 l.t, .string l.d, .slice an ns.length cn] 36) none) g1)
  have HB1 := Lib.hid B1
  have HL1 := Lib.hid (Blk.new w1 33 [.int .i64 0, .int .i64 0, .string ⟨#[]⟩])
  clear B1 g1
  unfold Lt.val
  go_wp2_with fail
  refine (Take_nil k _).mono ?_
  rintro e w2 ⟨rfl, g2⟩
  have GL := grow_none (World.grownBy_alloc w1 (.cells #[.int .i64 0, .int .i64 0, .string ⟨#[]⟩] 33) none) g2
  have HB2 := Lib.hid (HB1.out.keep GL)
  have HL2 := Lib.hid (HL1.out.keep g2)
  have HL2' := Lib.hid (Blk.new w2 33 [.int .i64 0, .int .i64 0, .string ⟨#[]⟩])
  have G2 := Lib.hid (grow_none G1.out GL)
  clear g2 GL HB1 HL1 G1 k1
  unfold Lt.val
  go_wp2_with fail
  refine (awake06_any _).mono ?_
  rintro e w3 ⟨rfl, g3⟩
  have GL := grow_none (World.grownBy_alloc w2 (.cells #[.int .i64 0, .int .i64 0, .string ⟨#[]⟩] 33) none) g3
  have B3 := Lib.hid (HB2.out.keep GL)
  have A3 := Lib.hid (HL2.out.keep GL)
  have C3 := Lib.hid (HL2'.out.keep g3)
  have G3 := Lib.hid (grow_none G2.out GL)
  have q0 := B3.out.cell 0 (by simp)
  have q1 := B3.out.cell 1 (by simp)
  have q2 := B3.out.cell 2 (by simp)
  have q3 := B3.out.cell 3 (by simp)
  have q4 := B3.out.cell 4 (by simp)
  have q5 := B3.out.cell 5 (by simp)
  have g4 : w3.grownBy (w3.alloc (.cells #[.int .i64 kd, .int .i64 k, .int .i64 l.f, .int .i64 l.t, .string l.d, .slice an ns.length cn] 36)) none := World.grownBy_alloc _ _ _
  have hR : ReadK Cl.cells 6 (w3.alloc (.cells #[.int .i64 kd, .int .i64 k, .int .i64 l.f, .int .i64 l.t, .string l.d, .slice an ns.length cn] 36)) (.slice (some ⟨w3.heap.size, 0, none⟩) 1 1) [⟨kd, k, l, .slice an ns.length cn⟩] :=
    ReadK.one Cl.len w3 ⟨kd, k, l, .slice an ns.length cn⟩ 36 1 #[.int .i64 kd, .int .i64 k, .int .i64 l.f, .int .i64 l.t, .string l.d, .slice an ns.length cn] rfl
  have HR := Lib.hid hR
  have OK4 := Lib.hid (HOK.out.keep (grow_none G3.out g4))
  have B4 := Lib.hid (B3.out.keep g4)
  have A4 := Lib.hid (A3.out.keep g4)
  have C4 := Lib.hid (C3.out.keep g4)
  have G4 := Lib.hid (grow_none G3.out g4)
  clear g3 GL HB2 HL2 HL2' G2 g4 hR
  go_wp2_with fail
  refine (great_any _ [⟨kd, k, l, .slice an ns.length cn⟩] _ HR.out (by show 1 ≤ 2^63-1; decide) (fun o ho => ⟨ns, by rw [List.mem_singleton.1 ho]; exact OK4.out⟩)).mono ?_
  rintro e w5 ⟨hg, g5⟩
  have G5 := Lib.hid (grow_none G4.out g5)
  rcases hg with rfl | ⟨rfl, _, hn⟩
  · clear g5
    go_wp2_with fail
    go_ret
    exact ⟨rfl, below_of_none G5.out⟩
  · have hnl := Lib.hid (hn _ (List.mem_singleton.2 rfl) ns OK4.out)
    have B5 := Lib.hid (B4.out.keep g5)
    have A5 := Lib.hid (A4.out.keep g5)
    have C5 := Lib.hid (C4.out.keep g5)
    have OK5 := Lib.hid (OK4.out.keep g5)
    clear q0 q1 q2 q3 q4 q5 hn B3 A3 C3 G3 B4 A4 C4 G4 HR OK4 g5
    have q2 := B5.out.cell 2 (by simp)
    have q3 := B5.out.cell 3 (by simp)
    have q4 := B5.out.cell 4 (by simp)
    go_wp2_with fail
    refine (Send_nil l _).mono ?_
    rintro e w6 ⟨rfl, g6⟩
    have B6 := B5.out.keep g6
    have A6 := A5.out.keep g6
    have C6 := C5.out.keep g6
    have hb6 := B6.lt
    have q1' := B6.cell 1 (by simp)
    have q5' := B6.cell 5 (by simp)
    have x0 := A6.cell 0 (by simp)
    have x1 := A6.cell 1 (by simp)
    have x2 := A6.cell 2 (by simp)
    have y0 := C6.cell 0 (by simp)
    have y1 := C6.cell 1 (by simp)
    have y2 := C6.cell 2 (by simp)
    have G6 := Lib.hid (grow_none G5.out g6)
    have r6 := OK5.out.1.kept (grow_none g6 (World.grownBy_alloc w6 (.cells #[] 3) none))
    clear B5 A5 C5 B6 A6 C6 g6 q2 q3 q4
    go_wp2_with fail
    refine (Twin_nil k _).mono ?_
    rintro e w7 ⟨rfl, rfl⟩
    go_wp2_with (refine wpList_append_row_g _ (by kernel_rfl) (.tmp 60) (.tmp 62) 34 (by with_reducible rfl) 3 i0 (.int .i64 0) 8 Try.underlying34 hi hz0 hz1 hz2 rfl _ _ _ rfl (own_empty06 _ _) _ (ns.map (Value.int .i64)) rfl r6 (ones_int06 ns) (by rw [List.length_map]; have := hnl.out; show _ ≤ 2^63-1; omega) (by rw [List.length_map]; have := hnl.out; omega) ?_)
    intro v8 w8 o8 g8 m8
    have G8 := Lib.hid (grow_none G6.out (grow_newblk (World.grownBy_alloc w6 (.cells #[] 3) none) (newblk_at w6 w6.heap.size 0 0 (Nat.le_refl _) 0) g8))
    clear r6 g8 m8 o8
    go_wp2_with fail
    refine (Purge_nil _ _).mono ?_
    rintro e w9 ⟨rfl, rfl⟩
    go_wp2_with fail
    refine (Len_nil _).mono ?_
    rintro e w9 ⟨rfl, rfl⟩
    go_wp2_with fail
    refine (Copy_nil _).mono ?_
    rintro e w9 ⟨rfl, rfl⟩
    go_wp2_with fail
    go_ret
    exact ⟨rfl, below_of_none G8.out⟩
end Go.Proofs.Ytpmfgjhkdokcbaa
