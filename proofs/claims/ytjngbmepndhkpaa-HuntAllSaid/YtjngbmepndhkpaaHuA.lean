/- Stage 19: the hunt: New, Copy, Turn, row. -/
import Derived.Test.YtjngbmepndhkpaaSame
import Derived.Test.YtjngbmepndhkpaaRel
import Derived.Test.YtjngbmepndhkpaaRelT
import Derived.Test.YtjngbmepndhkpaaStep
import Derived.Test.YtjngbmepndhkpaaShelf
import Derived.Outline
namespace Go.Proofs.Ytjngbmepndhkpaa
open Go.RowKit
set_option linter.unusedVariables false
theorem Try.info19_string : (Try.prog.info? 9).map (fun i => (i.zero, i.size, i.bytes)) = some (some (.string ⟨#[]⟩), 1, 16) := by kernel_rfl
def CapOk (v : Value) : Prop := ∀ p n c, v = .slice p n c → n ≤ c
theorem capok_lit (p : Option Addr) (n : Nat) : CapOk (.slice p n n) := by
  intro p n c e; injection e with _ e2 e3; omega
theorem own_cap {w : World} {e : TypeId} {n : Nat} {v : Value} {xs : List Value} (h : w.ownsRow 0 e 1 v n xs) : CapOk v := by
  rcases h.2 with ⟨rfl, rfl⟩ | ⟨g, cap, cur, rfl, _, _, hnc, _⟩
  · intro p n c e; injection e with _ e2 e3; omega
  · intro p n c e; injection e with _ e2 e3; omega
theorem wrapI {x : Int} (h1 : -9223372036854775808 ≤ x) (h2 : x ≤ 9223372036854775807) : IntKind.i64.wrap x = x := by
  rw [IntKind.wrap_i64]; omega
/-- Block b is the hunt of node me behind t ticks. -/
def HAt (w : World) (b : Nat) (me t : Nat) : Prop := Blk w b 42 [.int .i64 me, .int .i64 t]
theorem HAt.keep {w w' : World} {b me t : Nat} (h : HAt w b me t) (g : w.grownBy w' none) : HAt w' b me t := Blk.keep h g
theorem HAt.kept {w w' : World} {b c me t : Nat} (h : HAt w b me t) (g : w.grownBy w' (some c)) (hc : b ≠ c) : HAt w' b me t := Blk.kept h g (by intro e; injection e with e; exact hc e)
set_option maxRecDepth 100000 in
theorem New_yes (me : Nat) (w : World) (hm : me < 6) :
    Calls Try.prog 5 #[.int .i64 me] w fun e w' => e = .returned (.tuple #[.pointer (some ⟨w.heap.size, 0, none⟩), .int .i64 0]) ∧ HAt w' w.heap.size me 0 ∧ w.grownBy w' none := by
  have h1 : (me : Int) < 6 := by omega
  have hb : Blk (w.alloc (.cells #[.int .i64 me, .int .i64 0] 42)) w.heap.size 42 [.int .i64 me, .int .i64 0] := Blk.new _ _ _
  have HB := Lib.hid hb
  clear hb
  go_enter Try.func5, Try.ntmps5
  go_wp2
  go_ret2
  exact ⟨rfl, HB.out, World.grownBy_alloc _ _ _⟩
set_option maxRecDepth 100000 in
theorem New_no (n : Int) (w : World) (hn : -9223372036854775808 ≤ n ∧ n ≤ 9223372036854775807) (hm : n < 0 ∨ 6 ≤ n) :
    Calls Try.prog 5 #[.int .i64 n] w fun e w' => e = .returned (.tuple #[.pointer none, .int .i64 1]) ∧ w = w' := by
  have hc : decide (n < 0) = true ∨ (decide (n < 0) = false ∧ (6 : Int) ≤ n) := by
    simp only [decide_eq_true_eq, decide_eq_false_iff_not]; omega
  rcases hc with h | ⟨h, h2⟩
  all_goals
    go_enter Try.func5, Try.ntmps5
    go_wp2
    go_ret2
    exact ⟨rfl, rfl⟩
set_option maxRecDepth 100000 in
theorem Copy_any (b me t : Nat) (w : World) (h : HAt w b me t) :
    Calls Try.prog 8 #[.pointer (some ⟨b, 0, none⟩)] w fun e w' => ∃ c, e = .returned (.pointer (some ⟨c, 0, none⟩)) ∧ w.heap.size ≤ c ∧ HAt w' c me t ∧ w.grownBy w' none := by
  have c0 := h.cell 0 (by simp)
  have c1 := h.cell 1 (by simp)
  simp only [List.getD_cons_zero, List.getD_cons_succ] at c0 c1
  have hb : Blk (w.alloc (.cells #[.int .i64 me, .int .i64 t] 42)) w.heap.size 42 [.int .i64 me, .int .i64 t] := Blk.new _ _ _
  have HB := Lib.hid hb
  clear hb
  go_enter Try.func8, Try.ntmps8
  go_wp2
  go_ret
  exact ⟨w.heap.size, rfl, Nat.le_refl _, HB.out, World.grownBy_alloc _ _ _⟩
set_option maxRecDepth 100000 in
theorem Turn_any (b me t : Nat) (w : World) (h : HAt w b me t) :
    Calls Try.prog 12 #[.pointer (some ⟨b, 0, none⟩)] w fun e w' => e = .returned (.int .i64 t) ∧ w = w' := by
  have c1 := h.cell 1 (by simp)
  simp only [List.getD_cons_zero, List.getD_cons_succ] at c1
  go_enter Try.func12, Try.ntmps12
  go_wp2
  go_ret
  exact ⟨rfl, rfl⟩
/-- How many rows there are, and the row of a number. -/
def rowsN (n : Nat) : Nat := (n - 1) / 4 + 1
def rowL (l : List ByteArray) (n : Nat) : List ByteArray := (l.drop (n % rowsN l.length * 4)).take 4
/-- A list of texts that stands in memory. -/
def TextsV (l : List ByteArray) (v : Value) (w : World) : Prop := RowAt w v (l.map Value.string) ∧ CapOk v
theorem TextsV.kept {w w' : World} {v : Value} {l : List ByteArray} (h : TextsV l v w) (g : w.grownBy w' none) : TextsV l v w' := ⟨h.1.kept g, h.2⟩
theorem own_le {w : World} {k : Nat} {e : TypeId} {s : Nat} {v : Value} {n : Nat} {xs : List Value} (h : w.ownsRow k e s v n xs) : w.ownsRow 0 e s v n xs :=
  ⟨h.1, h.2.imp id (fun ⟨g, cap, cur, e, _, r⟩ => ⟨g, cap, cur, e, Nat.zero_le _, r⟩)⟩
/-- A list of the call's own comes back. -/
def TextsAt (w0 : World) (l : List ByteArray) (e : Ending) (w' : World) : Prop := ∃ v, e = .returned v ∧ TextsV l v w' ∧ w0.grownBy w' none ∧ NewBlk w0 v
theorem Clone_any (b off n c : Nat) (l : List ByteArray) (w : World) (hn : n ≤ l.length) (hl : n ≤ 1000000)
    (hc : ∀ j, j < l.length → w.cell? ⟨b, off + j, none⟩ = some (.string (l.getD j ByteArray.empty))) :
    Calls Try.prog 14 #[.slice (some ⟨b, off, none⟩) n c] w (TextsAt w (l.take n)) := by
  refine (Try.slices_Clone_string b off n c l w hn (by omega) hc).mono ?_
  rintro e w' ⟨v', rfl, h1, _, h2⟩
  exact ⟨v', rfl, ⟨RowAt.of_own (own_le h1), own_cap (own_le h1)⟩, none_of_below h2, fun k hk => (h1.lt k hk).1⟩
set_option maxRecDepth 100000 in
theorem row_any (k : Nat) (v : Value) (l : List ByteArray) (w : World) (hr : RowAt w v (l.map Value.string)) (hcap : CapOk v) (h0 : 0 < l.length) (hl : l.length ≤ 1000000) (hk : k ≤ 1000000) :
    Calls Try.prog 13 #[.int .i64 k, v] w (TextsAt w (rowL l k)) := by
  obtain ⟨p, c, rfl⟩ := row_form hr
  have hcn := hcap _ _ _ rfl
  obtain ⟨b, off, rfl, _, _⟩ := row_string hr rfl h0
  have hcells : ∀ j, j < l.length → w.cell? ⟨b, off + j, none⟩ = some (.string (l.getD j ByteArray.empty)) := fun j hj => by
    obtain ⟨b2, o2, e, h1, _⟩ := row_string hr rfl hj
    injection e with e; injection e with e1 e2; subst e1 e2
    exact h1
  have HCL := Lib.hid hcells
  obtain ⟨N, hN⟩ : ∃ N, N = l.length := ⟨_, rfl⟩
  obtain ⟨R, hR⟩ : ∃ R, R = rowsN l.length := ⟨_, rfl⟩
  obtain ⟨F, hF⟩ : ∃ F, F = k % R * 4 := ⟨_, rfl⟩
  obtain ⟨M, hM⟩ : ∃ M, M = min (F + 4) N := ⟨_, rfl⟩
  have r1 : ((N : Int) - 1) / 4 + 1 = (R : Int) := by rw [hR, hN]; unfold rowsN; omega
  have r0 : 0 < R := by rw [hR]; unfold rowsN; omega
  have r2 : (k : Int) % (R : Int) * 4 = (F : Int) := by rw [hF]; omega
  have hlt : k % R < R := Nat.mod_lt _ r0
  have hFN : F < N := by
    have : R = (N - 1) / 4 + 1 := by rw [hR, hN]; rfl
    rw [hF]; omega
  have hML : F ≤ M ∧ M ≤ N := by rw [hM]; omega
  rw [← hN] at hl h0 hcn ⊢
  have hrow : rowL l k = (l.drop F).take (M - F) := by
    unfold rowL; rw [← hR, ← hF, hM, List.take_eq_take_iff]
    simp only [List.length_drop, ← hN]; omega
  have HROW := Lib.hid hrow
  have hne : ¬ c = F := by omega
  have n1 : (1 : Int) ≤ N := by omega
  have n2 : (N : Int) ≤ 1000000 := by omega
  have k2 : (k : Int) ≤ 1000000 := by omega
  have R1 : (0 : Int) < R := by omega
  have R2 : (R : Int) ≤ 1000000 := by omega
  have mm : min ((F : Int) + 4) (N : Int) = (M : Int) := by rw [hM]; omega
  have HN := Lib.hid hN
  clear hr hcap hcells hN hR hF hM hrow
  go_enter Try.func13, Try.ntmps13
  go_wp2_with fail
  refine (Clone_any b (off + F) (M - F) (c - F) (l.drop F) w (by rw [List.length_drop]; have := HN.out; omega) (by omega) ?_).mono ?_
  · intro j hj
    rw [List.length_drop] at hj
    have := HCL.out (F + j) (by have := HN.out; omega)
    rw [show off + F + j = off + (F + j) by omega, this, List.getD, List.getD, List.getElem?_drop]
  rintro e w' ⟨v', rfl, h1, h2⟩
  go_wp2
  go_ret
  rw [HROW.out]
  exact ⟨v', rfl, h1, h2⟩
theorem row_rel {w0 : World} (k : Nat) (v : Value) (l : List ByteArray) (w : World) (hr : TextsV l v w) (h0 : 0 < l.length) (hl : l.length ≤ 1000000) (hk : k ≤ 1000000) (g : w0.grownBy w none) :
    Calls Try.prog 13 #[.int .i64 k, v] w fun e w'' => ∃ u, e = .returned u ∧ (TextsV (rowL l k) u w'' ∧ NewBlk w0 u) ∧ w0.grownBy w'' none ∧ w.grownBy w'' none := by
  refine (row_any k v l w hr.1 hr.2 h0 hl hk).mono ?_
  rintro e w' ⟨u, rfl, h1, h2, h3⟩
  exact ⟨u, rfl, ⟨h1, fun k hk => Nat.le_trans g.size (h3 k hk)⟩, grow_none g h2, h2⟩
/-- Whom a node asks at a turn, and for what. -/
def whoT (me t : Nat) (l : List ByteArray) : Int := if l = [] then -1 else ((me + 1 + t % 5) % 6 : Nat)
theorem rowL_nil (k : Nat) : rowL [] k = [] := by unfold rowL; simp
def Ticked (w : World) (b me t : Nat) (l : List ByteArray) (e : Ending) (w' : World) : Prop :=
  ∃ v, e = .returned (.tuple #[.int .i64 (whoT me t l), v]) ∧ TextsV (rowL l (t / 5)) v w' ∧ HAt w' b me (t + 1) ∧ w.grownBy w' (some b)
theorem RowAt.keptFar {w w' : World} {v : Value} {xs : List Value} {b : Nat} (h : RowAt w v xs) (g : w.grownBy w' (some b)) (hf : ∀ bb off n c, v = .slice (some ⟨bb, off, none⟩) n c → bb ≠ b) : RowAt w' v xs := by
  obtain ⟨a, cap, rfl, h⟩ := h
  refine ⟨a, cap, rfl, ?_⟩
  rcases h with h | ⟨bb, off, rfl, hb, hc⟩
  · exact .inl h
  · have hne := hf _ _ _ _ rfl
    exact .inr ⟨bb, off, rfl, Nat.lt_of_lt_of_le hb g.size, fun j hj => by rw [← hc j hj]; exact World.cell?_of_block (g.block bb hb (by intro e; injection e with e; exact hne e))⟩
theorem who_eq (me t : Nat) (l : List ByteArray) (hl : l ≠ []) : whoT me t l = ((me : Int) + 1 + (t : Int) % 5) % 6 := by
  unfold whoT; rw [if_neg hl]; omega
set_option maxRecDepth 100000 in
set_option maxHeartbeats 2000000 in
theorem Tick_new (b me t : Nat) (v : Value) (l : List ByteArray) (w : World) (h : HAt w b me t) (hr : TextsV l v w) (hl : l.length ≤ 1000000) (hme : me < 6) (ht : t ≤ 1000000)
    (hfar : ∀ bb off n c, v = .slice (some ⟨bb, off, none⟩) n c → bb ≠ b) :
    Calls Try.prog 9 #[.pointer (some ⟨b, 0, none⟩), v] w (fun e w' => ∃ v, e = .returned (.tuple #[.int .i64 (whoT me t l), v]) ∧ TextsV (rowL l (t / 5)) v w' ∧ HAt w' b me (t + 1) ∧ w.grownBy w' (some b) ∧ NewBlk w v) := by
  have c0 := h.cell 0 (by simp)
  have c1 := h.cell 1 (by simp)
  simp only [List.getD_cons_zero, List.getD_cons_succ] at c0 c1
  have f1 := h.frozen 1
  obtain ⟨p, c, hp⟩ := row_form hr.1
  have t0 : (t : Int) ≤ 1000000 := by omega
  have m0 : (me : Int) < 6 := by omega
  have l0 : (l.length : Int) ≤ 1000000 := by omega
  have G : w.grownBy (w.setCell ⟨b, 1, none⟩ (.int .i64 ((t : Int) + 1))) (some b) := grow_set _ _ _
  have H : HAt (w.setCell ⟨b, 1, none⟩ (.int .i64 ((t : Int) + 1))) b me (t + 1) := by
    have := Blk.set_ h 1 (.int .i64 ((t : Int) + 1))
    simpa [HAt] using this
  have R2 : TextsV l v (w.setCell ⟨b, 1, none⟩ (.int .i64 ((t : Int) + 1))) := ⟨hr.1.keptFar G hfar, hr.2⟩
  have HX := Lib.hid (And.intro G (And.intro H R2))
  obtain ⟨q, hq⟩ : ∃ q, q = t / 5 := ⟨_, rfl⟩
  have hq2 : (t : Int) / 5 = (q : Int) := by omega
  have hq1 : q ≤ 1000000 := by omega
  have hq3 : IntKind.i64.wrap (q : Int) = (q : Int) := wrapI (by omega) (by omega)
  have wb : (t : Int).tmod 5 = ((t % 5 : Nat) : Int) := by rw [Int.tmod_eq_emod_of_nonneg (by omega)]; omega
  have wa : IntKind.i64.wrap ((me : Int) + 1) = (me : Int) + 1 := wrapI (by omega) (by omega)
  have wc : IntKind.i64.wrap ((me : Int) + 1 + ((t % 5 : Nat) : Int)) = ((me + 1 + t % 5 : Nat) : Int) := by rw [wrapI (by omega) (by omega)]; omega
  have wd : ((me + 1 + t % 5 : Nat) : Int).tmod 6 = (((me + 1 + t % 5) % 6 : Nat) : Int) := by rw [Int.tmod_eq_emod_of_nonneg (by omega)]; omega
  obtain ⟨x5, hx5⟩ : ∃ x, x = t % 5 := ⟨_, rfl⟩
  obtain ⟨x6, hx6⟩ : ∃ x, x = me + 1 + x5 := ⟨_, rfl⟩
  obtain ⟨x7, hx7⟩ : ∃ x, x = x6 % 6 := ⟨_, rfl⟩
  rw [← hx5, ← hx6] at wc
  rw [← hx5, ← hx6, ← hx7] at wd
  rw [← hx5] at wb
  have hx : l ≠ [] → whoT me t l = (x7 : Int) := fun hl => by unfold whoT; rw [if_neg hl, hx7, hx6, hx5]
  have HW := Lib.hid hx
  clear hx hx5 hx6 hx7
  have HQ := Lib.hid hq
  clear G H R2 hfar h hq
  by_cases hn : l = []
  · subst hn
    subst hp
    go_enter Try.func9, Try.ntmps9
    go_wp2_with fail
    go_ret2
    refine ⟨.slice none 0 0, rfl, ?_, HX.out.2.1, HX.out.1, newblk_nil _⟩
    rw [rowL_nil]
    exact ⟨⟨none, 0, rfl, .inl rfl⟩, capok_lit _ _⟩
  · have hn2 : 0 < l.length := List.length_pos_iff.2 hn
    have hn3 : ((l.length : Int) == 0) = false := by simp; exact hn
    subst hp
    go_enter Try.func9, Try.ntmps9
    go_wp2_with fail
    refine wp_region_rel (fun W => (w.setCell ⟨b, 1, none⟩ (.int .i64 ((t : Int) + 1))).grownBy W none) (fun W W' => W.grownBy W' none) (by kernel_rfl) (by kernel_rfl) (fun W => grow_refl W none) (grow_drawn (grow_refl _ _)) ?_
    have HC := Lib.hid (show ∀ W, (w.setCell ⟨b, 1, none⟩ (.int .i64 ((t : Int) + 1))).grownBy W none → W.cell? ⟨b, 0, none⟩ = some (.int .i64 me) from fun W hW => (HX.out.2.1.keep hW).cell 0 (by simp))
    repeat (refine wpRel_det ?_; apply Exists.intro; refine ⟨fun W hI => ?_, ?_⟩; focus (have := HC.out W hI; go_simp; exact ⟨rfl, grow_refl _ _⟩))
    refine wpRel_step (fun v W => TextsV (rowL l (t / 5)) v W ∧ NewBlk (w.setCell ⟨b, 1, none⟩ (.int .i64 ((t : Int) + 1))) v) (fun v W W' hr h => ⟨h.1.kept hr, h.2⟩) (fun W hI => ?_) ?_
    focus (go_simp; rw [← HQ.out]; exact row_rel q _ l W (HX.out.2.2.kept hI) hn2 hl hq1 hI)
    repeat (refine wpRel_det ?_; apply Exists.intro; refine ⟨fun W hI => ?_, ?_⟩; focus (go_simp; exact ⟨rfl, grow_refl _ _⟩))
    refine wpRel_step (fun v W => TextsV (rowL l (t / 5)) v W ∧ NewBlk (w.setCell ⟨b, 1, none⟩ (.int .i64 ((t : Int) + 1))) v) (fun v W W' hr h => ⟨h.1.kept hr, h.2⟩) (fun W hI => ?_) ?_
    focus (go_simp; intro v hv hv2; exact ⟨⟨hv, hv2⟩, grow_refl _ _⟩)
    refine wpRel_nil ?_
    intro w' hI
    go_simp
    intro v1 _ _ v2 hv2 hv3
    go_wp2
    go_ret2
    rw [← HW.out hn]
    exact ⟨v2, rfl, hv2, HX.out.2.1.keep hI, grow_then_none HX.out.1 hI, by simpa [World.setCell, NewBlk] using hv3⟩
theorem Tick_any (b me t : Nat) (v : Value) (l : List ByteArray) (w : World) (h : HAt w b me t) (hr : TextsV l v w) (hl : l.length ≤ 1000000) (hme : me < 6) (ht : t ≤ 1000000)
    (hfar : ∀ bb off n c, v = .slice (some ⟨bb, off, none⟩) n c → bb ≠ b) :
    Calls Try.prog 9 #[.pointer (some ⟨b, 0, none⟩), v] w (Ticked w b me t l) :=
  (Tick_new b me t v l w h hr hl hme ht hfar).mono fun e w' ⟨v', h1, h2, h3, h4, _⟩ => ⟨v', h1, h2, h3, h4⟩
end Go.Proofs.Ytjngbmepndhkpaa
