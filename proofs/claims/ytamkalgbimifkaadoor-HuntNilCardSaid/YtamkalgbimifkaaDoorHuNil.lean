/- The law HuntNil: its walk. -/
import Derived.Test.YtamkalgbimifkaaDoorHuB
namespace Go.Proofs.YtamkalgbimifkaaDoor
open Go.RowKit
set_option linter.unusedVariables false
theorem wpList_append_row_g {P : Program} (w : World) {ops : Array Oper} {rest : List Oper} {o : Oper} {a : Act} {Q : Exit → Act → World → Prop} (hw : Region.wanted o (yielded ops a.tmps) = true) (s x : Operand) (t : TypeId)
    (ho : o.op = .call { callee := .builtin .append, args := #[s, x], argTypes := #[t, t] })
    (e : TypeId) (i : TypeInfo) (z : Value) (bytes : Nat) (ht : P.underlying t = some (.slice e)) (hi : P.info? e = some i) (hz : i.zero = some z)
    (hsize : i.size = 1) (hby : i.bytes = bytes) (hzs : z.cells.size = 1)
    (v : Value) (n : Nat) (xs : List Value) (hs : a.eval s = v) (hown : w.ownsRow 0 e 1 v n xs)
    (vs : Value) (news : List Value) (hx : a.eval x = vs) (hr : RowAt w vs news) (h1 : ∀ u ∈ news, u.oneCell' = true)
    (h63 : n + news.length ≤ maxLen) (hbytes : (n + news.length) * bytes ≤ 140737488355328)
    (h : ∀ v' w', w'.ownsRow 0 e 1 v' (n + news.length) (xs ++ news) → w.grownBy w' v.ownBlock → Moved w v v' → wpList P ops Q rest (a.put o.dst v') w') : wpList P ops Q (o :: rest) a w := by
  obtain ⟨v', w', hrun, h2, h3, h4⟩ := run_append_row (P := P) w t o.type e i z bytes ht hi hz hsize hby hzs v n xs hown vs news hr h1 h63 hbytes
  refine wpList_step fun K hK => ?_
  rw [if_pos hw]
  unfold Oper.wp execOp
  simp only [ho, resolve, invoke, builtin, Sem.run_bind, Sem.run_pure, Result.andThen_ok, List.map_toArray, List.map_cons, List.map_nil, hs, hx, hrun]
  exact hK _ _ (h v' w' h2 h3 h4)
/-- What the tables hold is of no weight here. -/
theorem any_of_laid {p : Prop} (h : p) : True := trivial
set_option maxRecDepth 100000 in
theorem Tick_nil (v : Value) (w : World) : Calls Tryd.prog 6 #[.pointer none, v] w fun e w' => e = .returned (.tuple #[.int .i64 (-1), .slice none 0 0]) ∧ w = w' := by
  go_enter Tryd.func6, Tryd.ntmps6
  go_wp2_with fail
  go_ret2
  exact ⟨rfl, rfl⟩
set_option maxRecDepth 100000 in
theorem Turn_nil (w : World) : Calls Tryd.prog 7 #[.pointer none] w fun e w' => e = .returned (.int .i64 0) ∧ w = w' := by
  go_enter Tryd.func7, Tryd.ntmps7
  go_wp2_with fail
  go_ret
  exact ⟨rfl, rfl⟩
set_option maxRecDepth 100000 in
theorem Copy_nil (w : World) : Calls Tryd.prog 8 #[.pointer none] w fun e w' => e = .returned (.pointer none) ∧ w = w' := by
  go_enter Tryd.func8, Tryd.ntmps8
  go_wp2_with fail
  go_ret
  exact ⟨rfl, rfl⟩
set_option maxRecDepth 100000 in
theorem Get_nil (s : ByteArray) (w : World) : Calls Tryd.prog 12 #[.pointer none, .string s] w fun e w' => e = .returned (.tuple #[.string ⟨#[]⟩, .int .i64 2]) ∧ w = w' := by
  go_enter Tryd.func12, Tryd.ntmps12
  go_wp2_with fail
  go_ret2
  exact ⟨rfl, rfl⟩
set_option maxRecDepth 100000 in
theorem Serve_nil (v : Value) (l : List ByteArray) (w : World) (hr : RowAt w v (l.map Value.string)) (hl : l.length ≤ maxLen) :
    Calls Tryd.prog 9 #[.pointer none, .pointer none, v] w fun e w' => e = .returned (.slice none 0 0) ∧ w = w' := by
  obtain ⟨p, c, rfl⟩ := row_form hr
  have il : (l.length : Int) ≤ 9223372036854775807 := by unfold maxLen at hl; omega
  clear hl
  go_enter Tryd.func9, Tryd.ntmps9
  go_wp2_with fail
  go_loop [7, 14] (fun o i => ∃ k : Nat, k ≤ l.length ∧ o = .slice none 0 0 ∧ i = .int .i64 k) (fun _ i => l.length - (intOf i).toNat)
  case atStart => exact ⟨0, Nat.zero_le _, rfl, rfl⟩
  case round =>
    obtain ⟨k, hk, rfl, rfl⟩ := hrel
    by_cases hlt : k < l.length
    · obtain ⟨b1, o1, rfl, c1, _⟩ := row_string hr rfl hlt
      have hki : (k : Int) < l.length := by omega
      go_wp2_with fail
      refine (Get_nil _ _).mono ?_
      rintro e w2 ⟨rfl, rfl⟩
      go_wp2_with fail
      go_round
      case rel => exact ⟨k + 1, by omega, rfl, by go_num⟩
      case measure => simp [intOf]; omega
    · obtain rfl : k = l.length := by omega
      go_wp2_with fail
      go_ret
      exact ⟨rfl, rfl⟩
set_option maxRecDepth 100000 in
set_option maxHeartbeats 1000000 in
theorem law_HuntNil (v : Value) (l : List ByteArray) {w : World} (hr : RowAt w v (l.map Value.string)) (hs : ∀ s ∈ l, s.size ≤ maxLen) (hl : l.length ≤ maxLen) (_ : True) :
    Calls Tryd.prog 3 #[v] w fun e w' => e = .returned (.bool true) ∧ Below w.heap.size w w' := by
  obtain ⟨i0, hi, hz0, hz1, hz2⟩ := info_parts Tryd.info19_string
  obtain ⟨p, c, rfl⟩ := row_form hr
  have HMN : Hid (∀ W, w.grownBy W none → Calls Tryd.prog 5 #[.slice p l.length c] W fun e w' => ManyE l e ∧ W = w') := fun W hW => many19_any _ l W (hr.kept hW) hl hs
  clear hl hs
  go_enter Tryd.func3, Tryd.ntmps3
  go_wp2_with fail
  refine (awake19_any _).mono ?_
  rintro e w1 ⟨rfl, g1⟩
  go_wp2_with fail
  refine (HMN.out _ g1).mono ?_
  rintro e w2 ⟨he, rfl⟩
  rcases he with rfl | ⟨rfl, hl4⟩
  · go_wp2_with fail
    refine (awake19_any _).mono ?_
    rintro e w2 ⟨rfl, g2⟩
    go_wp2_with fail
    go_ret
    exact ⟨rfl, below_of_none (grow_none g1 g2)⟩
  · clear HMN
    have hl5 : (l.length : Int) ≤ 4096 := by omega
    have r4 := (hr.kept g1).kept (World.grownBy_alloc w1 (.cells #[] 9) none)
    go_wp2_with (at_builtin; refine wpList_append_row _ rfl _ _ 22 rfl 9 i0 (.string ⟨#[]⟩) 16 Tryd.underlying22 hi hz0 hz1 hz2 rfl _ _ _ rfl (own_empty _ _ _) _ (l.map Value.string) rfl r4 (ones_str l) (by rw [List.length_map]; show _ ≤ 2^63-1; omega) (by rw [List.length_map]; omega) ?_)
    intro v5 w5 o5 g5 m5
    have X5 := grow_newblk (World.grownBy_alloc w1 (.cells #[] 9) none) (newblk_at w1 w1.heap.size 0 0 (Nat.le_refl _) 0) g5
    have G5 := grow_none g1 X5
    clear r4 g5 m5 X5 o5 g1
    go_wp2_with fail
    refine (Tick_nil _ _).mono ?_
    rintro e w6 ⟨rfl, rfl⟩
    go_wp2_with fail
    refine (Turn_nil _).mono ?_
    rintro e w6 ⟨rfl, rfl⟩
    go_wp2_with fail
    refine (Copy_nil _).mono ?_
    rintro e w6 ⟨rfl, rfl⟩
    have r6 := (hr.kept G5).kept (World.grownBy_alloc w5 (.cells #[] 9) none)
    go_wp2_with (refine wpList_append_row_g _ (by kernel_rfl) (.tmp 39) (.tmp 40) 22 (by with_reducible rfl) 9 i0 (.string ⟨#[]⟩) 16 Tryd.underlying22 hi hz0 hz1 hz2 rfl _ _ _ rfl (own_empty _ _ _) _ (l.map Value.string) rfl r6 (ones_str l) (by rw [List.length_map]; show _ ≤ 2^63-1; omega) (by rw [List.length_map]; omega) ?_)
    intro v6 w6 o6 g6 m6
    have X6 := grow_newblk (World.grownBy_alloc w5 (.cells #[] 9) none) (newblk_at w5 w5.heap.size 0 0 (Nat.le_refl _) 0) g6
    have G6 := grow_none G5 X6
    go_wp2_with fail
    refine (Serve_nil v6 l _ (RowAt.of_own (by simpa using o6)) (by unfold maxLen; omega)).mono ?_
    rintro e w7 ⟨rfl, rfl⟩
    go_wp2_with fail
    go_ret
    exact ⟨rfl, below_of_none G6⟩
end Go.Proofs.YtamkalgbimifkaaDoor
