/- The law SeamCommon: its walk. -/
import Derived.Test.YtkmpcncehicpmaaSmF
namespace Go.Proofs.Ytkmpcncehicpmaa
open Go.RowKit
set_option linter.unusedVariables false
theorem Try.info17_row : (Try.prog.info? 29).map (fun i => (i.zero, i.size, i.bytes)) = some (some (.slice none 0 0), 1, 24) := by kernel_rfl
/-- How many numbers the first k lists hold. -/
def totN (ls : List (List Int)) (k : Nat) : Nat := ((ls.take k).map List.length).sum
theorem tot_step (ls : List (List Int)) (k : Nat) (hk : k < ls.length) : totN ls (k + 1) = totN ls k + (ls.getD k []).length := by
  unfold totN
  rw [List.take_succ_eq_append_getElem hk, List.map_append, List.sum_append]
  simp [List.getD, List.getElem?_eq_getElem hk]
theorem tot_le (ls : List (List Int)) : ∀ (k j : Nat), j < k → k ≤ ls.length → (ls.getD j []).length ≤ totN ls k
  | 0, j, h, _ => by omega
  | k + 1, j, h, hk => by
    rw [tot_step ls k (by omega)]
    by_cases e : j = k
    · subst e; omega
    · have := tot_le ls k j (by omega) (by omega); omega
/-- The row reads so, and lies in another block than r. -/
def RowO (w : World) (r : Option Nat) (v : Value) (xs : List Value) : Prop := RowAt w v xs ∧ ∀ b off n c, v = .slice (some ⟨b, off, none⟩) n c → 0 < n → some b ≠ r ∧ b < w.heap.size
theorem RowO.kept {w w' : World} {r : Option Nat} {v : Value} {xs : List Value} (h : RowO w r v xs) (g : w.grownBy w' r) : RowAt w' v xs := by
  obtain ⟨⟨a, cap, rfl, h⟩, hne⟩ := h
  refine ⟨a, cap, rfl, ?_⟩
  rcases h with h | ⟨b, off, rfl, hb, hc⟩
  · exact .inl h
  · by_cases h0 : xs = []
    · exact .inl h0
    · have hp : 0 < xs.length := List.length_pos_iff.2 h0
      refine .inr ⟨b, off, rfl, Nat.lt_of_lt_of_le hb g.size, fun j hj => ?_⟩
      rw [World.cell?_of_block (g.block b hb (hne b off _ _ rfl hp).1)]
      exact hc j hj
theorem RowO.keep {w w' : World} {r : Option Nat} {v : Value} {xs : List Value} (h : RowO w r v xs) (g : w.grownBy w' none) : RowO w' r v xs :=
  ⟨h.1.kept g, fun b off n c e hn => ⟨(h.2 b off n c e hn).1, Nat.lt_of_lt_of_le (h.2 b off n c e hn).2 g.size⟩⟩
theorem RowO.moved {w w' : World} {u u' v : Value} {xs : List Value} (h : RowO w u.ownBlock v xs) (g : w.grownBy w' u.ownBlock) (m : Moved w u u') : RowO w' u'.ownBlock v xs := by
  refine ⟨h.kept g, fun b off n c e hn => ?_⟩
  obtain ⟨h1, h2⟩ := h.2 b off n c e hn
  refine ⟨?_, Nat.lt_of_lt_of_le h2 g.size⟩
  rcases m with m | ⟨j, hj, m⟩
  · rw [m]; exact h1
  · rw [m]; intro e; injection e with e; omega
theorem RowO.new {w w' : World} {u v : Value} {xs : List Value} (h : RowAt w' v xs) (hn : NewBlk w v) (hu : ∀ k, u.ownBlock = some k → k < w.heap.size) : RowO w' u.ownBlock v xs := by
  refine ⟨h, ?_⟩
  rintro b off n c rfl hp
  have hb := hn b rfl
  obtain ⟨a', cap, e, h⟩ := h
  injection e with e1 e2 e3
  refine ⟨fun e => ?_, ?_⟩
  · have := hu b e.symm; omega
  · rcases h with h | ⟨b', off', e', hb', _⟩
    · subst h; simp at e2; omega
    · rw [e'] at e1; injection e1 with e1; injection e1 with e1; omega
/-- What is gathered ahead of a round. -/
def MineAt (ls : List (List Int)) (w0 : World) (k : Nat) (v : Value) (w : World) : Prop :=
  ∃ us : List Value, us.length = k ∧ w.ownsRow 0 29 1 v k us ∧ (∀ j, j < k → RowO w v.ownBlock (us.getD j undef) ((ls.getD j []).map (Value.int .i64))) ∧ NewBlk w0 v ∧ w0.grownBy w none
set_option maxRecDepth 100000 in
set_option maxHeartbeats 2000000 in
theorem law_SeamCommon (v : Value) (ls : List (List Int)) {w : World} (hrow : Rows2 .i64 w v ls)
    (hw : ∀ l ∈ ls, l.length ≤ 140737488355328) (hl : ls.length ≤ 140737488355328) (_ : World) :
    Calls Try.prog 21 #[v] w fun e w' => e = .returned (.bool true) ∧ Below w.heap.size w w' := by
  obtain ⟨i0, hi, hz0, hz1, hz2⟩ := info_parts Try.info17_row
  have hform : ∃ a c, v = .slice a ls.length c := by
    obtain ⟨vs, h1, h2, h3⟩ := hrow
    obtain ⟨a, c, rfl⟩ := h1.len
    exact ⟨a, c, by rw [h2]⟩
  obtain ⟨a, c, rfl⟩ := hform
  have HW := Lib.hid hw
  have hli : (ls.length : Int) ≤ 140737488355328 := by omega
  clear hw
  go_enter Try.func21, Try.ntmps21
  go_wp2
  go_loop [3, 13] (fun n i => ∃ k N : Nat, i = .int .i64 k ∧ k ≤ ls.length ∧ n = .int .i64 N ∧ N = ls.length + totN ls k ∧ (k = 0 ∨ N ≤ 2000)) (fun _ i => ls.length - (intOf i).toNat)
  case atStart => exact ⟨0, ls.length, rfl, Nat.zero_le _, rfl, rfl, .inl rfl⟩
  case round =>
    obtain ⟨k, N, rfl, hk, rfl, hN, hor⟩ := hrel
    have HN := Lib.hid hN
    have hNb : (N : Int) ≤ 140737488355328 := by
      rcases hor with rfl | h
      · have : totN ls 0 = 0 := rfl
        omega
      · omega
    by_cases hlt : k < ls.length
    · obtain ⟨bb, off, c2, ra, rc, e2, hcell, _⟩ := rows_at hrow hlt
      injection e2 with e2 e3 e4
      subst e2 e4
      have hwl := HW.out (ls.getD k []) (by rw [List.getD, List.getElem?_eq_getElem hlt]; exact List.getElem_mem hlt)
      have HS := Lib.hid (tot_step ls k hlt)
      obtain ⟨m, hm⟩ : ∃ m, m = (ls.getD k []).length := ⟨_, rfl⟩
      rw [← hm] at hcell hwl
      have HM := Lib.hid hm
      have hlti : (k : Int) < ls.length := by omega
      have hmi : (m : Int) ≤ 140737488355328 := by omega
      clear hm hN hor hwl
      by_cases hgt : 2000 < N + m
      · have d1 : decide ((2000 : Int) < (N : Int) + m) = true := decide_eq_true (by omega)
        clear hgt
        go_wp2_with fail
        refine (awake17_any _).mono ?_
        rintro e w3 ⟨rfl, g3⟩
        go_wp2
        go_ret
        exact ⟨rfl, below_of_none g3⟩
      · have d1 : decide ((2000 : Int) < (N : Int) + m) = false := decide_eq_false (by omega)
        have HE : Hid (N + m = ls.length + totN ls (k + 1)) := by
          show _ = _
          rw [HS.out, ← HM.out]
          have := HN.out
          omega
        have hle : N + m ≤ 2000 := by omega
        clear hgt
        go_wp2
        go_round
        case rel => exact ⟨k + 1, N + m, by go_num, by omega, by push_cast; rfl, HE.out, .inr hle⟩
        case measure => simp [intOf]; omega
    · obtain rfl : k = ls.length := by omega
      have hN2 : N ≤ 2000 := by
        rcases hor with h | h
        · have e : totN ls ls.length = 0 := by rw [h]; rfl
          omega
        · exact h
      have hl2 : ls.length ≤ 2000 := by omega
      have HLS : Hid (∀ j, j < ls.length → (ls.getD j []).length ≤ 2000) := by
        intro j hj
        have := tot_le ls ls.length j hj (Nat.le_refl _)
        omega
      have hN3 : (N : Int) ≤ 2000 := by omega
      have t0 : MineAt ls w 0 (.slice none 0 0) w := ⟨[], rfl, World.ownsRow_nil _ _ _ _, fun j hj => by omega, newblk_nil _, grow_refl _ _⟩
      clear hN HN hor hNb
      go_wp2
      go_loopw [6, 27] (fun mv i wr => ∃ k : Nat, i = .int .i64 k ∧ k ≤ ls.length ∧ MineAt ls w k mv wr) (fun _ i _ => ls.length - (intOf i).toNat)
      case atStart => exact ⟨0, rfl, Nat.zero_le _, t0⟩
      case round =>
        obtain ⟨k, rfl, hk, us, hul, ho, hrows, hn, hg⟩ := hrel
        clear t0
        by_cases hlt : k < ls.length
        · obtain ⟨bb, off, c2, ra, rc, e2, hcell, hrk⟩ := rows_at (hrow.kept hg) hlt
          injection e2 with e2 e3 e4
          subst e2 e4
          have HROWS := Lib.hid hrows
          have hlen := HLS.out k hlt
          obtain ⟨l, hle⟩ : ∃ l, l = ls.getD k [] := ⟨_, rfl⟩
          rw [← hle] at hcell hrk hlen
          have HLE := Lib.hid hle
          have hlti : (k : Int) < ls.length := by omega
          clear hle hrows
          go_wp2_with fail
          refine (own_any _ l _ hrk (by omega)).mono ?_
          rintro e w4 ⟨u, rfl, ru, nu, g4⟩
          obtain ⟨ua, uc, rfl⟩ := ru.len
          rw [List.length_map] at ru nu ⊢
          have hown := ho.lt
          have ho4 := own_keep ho g4
          have gA := World.grownBy_alloc w4 (.cells #[Value.slice ua l.length uc] 29) none
          have hA := RowAt.lit w4 [Value.slice ua l.length uc] 29 1 1 rfl
          have hu1 : ∀ x ∈ [Value.slice ua l.length uc], x.oneCell' = true := by
            intro x hx
            rw [List.mem_singleton] at hx
            rw [hx]; rfl
          go_wp2_with (at_builtin; refine wpList_append_row _ rfl _ _ 90 rfl 29 i0 (.slice none 0 0) 24 Try.underlying90 hi hz0 hz1 hz2 rfl _ _ _ rfl (ho4.alloc _) _ [Value.slice ua l.length uc] rfl hA hu1 (by show k + 1 ≤ 2^63-1; omega) (by show (k + 1) * 24 ≤ _; omega) ?_)
          intro v6 w6 o6 g6 mv6
          have GA := grow_none (grow_none hg g4) gA
          have X6 := grow_newblk GA hn g6
          have N6 := hn.moved GA.size mv6
          have hul' : (us ++ [Value.slice ua l.length uc]).length = k + 1 := by rw [List.length_append, hul]; rfl
          have HR6 : Hid (∀ j, j < k + 1 → RowO w6 v6.ownBlock ((us ++ [Value.slice ua l.length uc]).getD j undef) ((ls.getD j []).map (Value.int .i64))) := by
            intro j hj
            by_cases e : j = k
            · subst e
              have e1 : (us ++ [Value.slice ua l.length uc]).getD j undef = Value.slice ua l.length uc := by
                rw [List.getD, List.getElem?_append_right (by omega), hul, Nat.sub_self]; rfl
              rw [e1, ← HLE.out]
              exact ((RowO.new ru nu (fun q hq => (hown q hq).2)).keep gA).moved g6 mv6
            · have e1 : (us ++ [Value.slice ua l.length uc]).getD j undef = us.getD j undef := by
                rw [List.getD, List.getD, List.getElem?_append_left (by omega)]
              rw [e1]
              exact ((HROWS.out j (by omega)).keep (grow_none g4 gA)).moved g6 mv6
          clear g6 mv6 GA hA gA ho4 ho
          go_wp2
          go_roundw
          case rel => exact ⟨k + 1, by go_num, by omega, us ++ [Value.slice ua l.length uc], hul', o6, HR6.out, N6, X6⟩
          case measure => simp [intOf]; omega
        · obtain rfl : k = ls.length := by omega
          have hm : Rows2 .i64 wr u6 ls := ⟨us, RowAt.of_own ho, hul, fun j hj => (hrows j hj).1⟩
          have HM := Lib.hid hm
          have HS2 : Hid (∀ l ∈ ls, l.length ≤ 1000000) := by
            intro l hl'
            obtain ⟨j, hj, rfl⟩ := List.getElem_of_mem hl'
            have := HLS.out j hj
            rw [List.getD, List.getElem?_eq_getElem hj] at this
            simp at this
            omega
          have d9 : decide ((N : Int) ≤ 2000) = true := decide_eq_true (by omega)
          clear hrows ho hm
          go_wp2_with fail
          refine (awake17_any _).mono ?_
          rintro e w3 ⟨rfl, g3⟩
          have G3 := grow_none hg g3
          go_wp2_with fail
          refine (Common_any _ ls _ (HM.out.kept g3) (by unfold maxLen; omega) HS2.out).mono ?_
          rintro e w4 ⟨rfl, g4⟩
          have G4 := grow_none G3 g4
          go_wp2_with fail
          refine (refCommon_any _ ls _ (hrow.kept G4) (by unfold maxLen; omega) HS2.out).mono ?_
          rintro e w5 ⟨rfl, g5⟩
          have G5 := grow_none G4 g5
          clear G3 G4 g3 g4 g5
          go_wp2
          go_ret
          exact ⟨rfl, below_of_none G5⟩
end Go.Proofs.Ytkmpcncehicpmaa
