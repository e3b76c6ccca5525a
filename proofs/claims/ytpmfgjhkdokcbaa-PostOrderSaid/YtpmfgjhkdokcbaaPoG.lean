/- Stage 6: letters are struck out: Contains, the closure, IndexFunc. -/
import Derived.Test.YtpmfgjhkdokcbaaPoE
namespace Go.Proofs.Ytpmfgjhkdokcbaa
open Go.RowKit
set_option linter.unusedVariables false
theorem row_int {w : World} {a : Option Addr} {c n : Nat} {l : List Int} {k : Nat} (h : RowAt w (.slice a n c) (l.map (Value.int .i64))) (hn : l.length = n) (hk : k < n) :
    ∃ bb off, a = some ⟨bb, off, none⟩ ∧ w.cell? ⟨bb, off + k, none⟩ = some (.int .i64 (l.getD k 0)) ∧ bb < w.heap.size := by
  subst hn
  obtain ⟨a', c', e, h⟩ := h
  injection e with e1 e2 e3
  subst e1
  rcases h with h | ⟨b, off, rfl, hb, hc⟩
  · have : l = [] := by simpa using h
    subst this; simp at hk
  · exact ⟨b, off, rfl, by rw [hc k (by simpa using hk)]; simp [List.getD, List.getElem?_eq_getElem hk], hb⟩
def inB (x : Int) (ns : List Int) : Bool := decide (x ∈ ns)
def hitB (ns : List Int) (l : Lt) : Bool := inB l.f ns || inB l.t ns
def IndexR (x : Int) (ns : List Int) (w : World) (e : Ending) (w' : World) : Prop := (∃ r : Int, e = .returned (.int .i64 r) ∧ decide (0 ≤ r) = inB x ns) ∧ w = w'
set_option maxRecDepth 100000 in
set_option maxHeartbeats 400000 in
theorem Index_any (v : Value) (ns : List Int) (x : Int) (w : World) (hr : RowAt w v (ns.map (Value.int .i64))) (hl : ns.length ≤ maxLen) :
    Calls Try.prog 37 #[v, .int .i64 x] w (IndexR x ns w) := by
  obtain ⟨p, c, e⟩ := hr.len
  rw [List.length_map] at e
  subst e
  have il : (ns.length : Int) ≤ 9223372036854775807 := by unfold maxLen at hl; omega
  clear hl
  go_enter Try.func37, Try.ntmps37
  go_wp2
  go_loop [8] (fun i => ∃ k : Nat, i = .int .i64 k ∧ k ≤ ns.length ∧ ∀ j, j < k → ns.getD j 0 ≠ x) (fun i => ns.length - (intOf i).toNat)
  case atStart => exact ⟨0, rfl, Nat.zero_le _, fun j hj => absurd hj (Nat.not_lt_zero _)⟩
  case round =>
    obtain ⟨k, rfl, hk, hno⟩ := hrel
    have HN := Lib.hid hno
    clear hno
    by_cases hlt : k < ns.length
    · obtain ⟨bb, off, rfl, c1, _⟩ := row_int hr rfl hlt
      obtain ⟨y, hy⟩ : ∃ y, y = ns.getD k 0 := ⟨_, rfl⟩
      rw [← hy] at c1
      have HY := Lib.hid hy
      clear hy
      have i1 : (k : Int) < ns.length := by omega
      have i0 : (0 : Int) ≤ k := by omega
      by_cases he : x = y
      · subst he
        go_wp2
        go_ret
        refine ⟨⟨(k : Int), rfl, ?_⟩, rfl⟩
        unfold inB
        rw [decide_eq_true i0]
        exact (decide_eq_true (by rw [HY.out, List.getD, List.getElem?_eq_getElem hlt]; exact List.getElem_mem hlt)).symm
      · have e1 : (x == y) = false := by simpa using he
        have HE := Lib.hid he
        clear he
        go_wp2
        go_round
        case rel => exact ⟨k + 1, by go_num, by omega, fun j hj => by
          by_cases e : j = k
          · subst e; rw [← HY.out]; exact fun e => HE.out e.symm
          · exact HN.out j (by omega)⟩
        case measure => simp [intOf]; omega
    · obtain rfl : k = ns.length := by omega
      go_wp2
      go_ret
      refine ⟨⟨-1, rfl, ?_⟩, rfl⟩
      unfold inB
      rw [decide_eq_false (by omega : ¬ (0 : Int) ≤ -1)]
      refine (decide_eq_false ?_).symm
      intro hm
      obtain ⟨j, hj, e⟩ := List.mem_iff_getElem.1 hm
      exact HN.out j hj (by rw [List.getD, List.getElem?_eq_getElem hj]; exact e)
set_option maxRecDepth 100000 in
theorem Contains_any (v : Value) (ns : List Int) (x : Int) (w : World) (hr : RowAt w v (ns.map (Value.int .i64))) (hl : ns.length ≤ maxLen) :
    Calls Try.prog 35 #[v, .int .i64 x] w fun e w' => e = .returned (.bool (inB x ns)) ∧ w = w' := by
  go_enter Try.func35, Try.ntmps35
  go_wp2_with fail
  refine (Index_any v ns x _ hr hl).mono ?_
  rintro e w1 ⟨⟨r, rfl, hd⟩, rfl⟩
  have HD := Lib.hid hd
  clear hd
  go_wp2
  go_ret
  exact ⟨by rw [← HD.out]; rfl, rfl⟩
theorem RowAt.grown {w w' : World} {v : Value} {xs : List Value} (h : RowAt w v xs) (g : w.grownBy w' none) : RowAt w' v xs := h.kept g
set_option maxRecDepth 100000 in
theorem hit_any (l : Lt) (bx : Nat) (vn : Value) (ns : List Int) (w : World) (hc : w.cell? ⟨bx, 0, none⟩ = some vn) (hb : bx < w.heap.size) (hr : RowAt w vn (ns.map (Value.int .i64))) (hl : ns.length ≤ maxLen) :
    Calls Try.prog 34 #[l.val, .pointer (some ⟨bx, 0, none⟩)] w fun e w' => e = .returned (.bool (hitB ns l)) ∧ w.grownBy w' none := by
  have hr1 := hr.kept (World.grownBy_alloc w (.cells #[.int .i64 l.f, .int .i64 l.t, .string l.d] 33) none)
  unfold Lt.val
  cases h1 : inB l.f ns
  · have H1 := Lib.hid h1
    have HB : Hid (hitB ns l = inB l.t ns) := by show _ = _; unfold hitB; rw [h1]; rfl
    clear h1
    go_enter Try.func34, Try.ntmps34
    go_wp2_with fail
    refine (Contains_any vn ns l.f _ hr1 hl).mono ?_
    rintro e w1 ⟨rfl, rfl⟩
    rw [H1.out]
    go_wp2_with fail
    refine (Contains_any vn ns l.t _ hr1 hl).mono ?_
    rintro e w1 ⟨rfl, rfl⟩
    go_wp2
    go_ret
    exact ⟨by rw [HB.out]; rfl, World.grownBy_alloc _ _ _⟩
  · have H1 := Lib.hid h1
    have HB : Hid (hitB ns l = true) := by show _ = _; unfold hitB; rw [h1]; rfl
    clear h1
    go_enter Try.func34, Try.ntmps34
    go_wp2_with fail
    refine (Contains_any vn ns l.f _ hr1 hl).mono ?_
    rintro e w1 ⟨rfl, rfl⟩
    rw [H1.out]
    go_wp2
    go_ret
    exact ⟨by rw [HB.out]; rfl, World.grownBy_alloc _ _ _⟩
/-- What the closure reads is there. -/
structure Seen (w : World) (bx : Nat) (vn : Value) (ns : List Int) : Prop where
  cell : w.cell? ⟨bx, 0, none⟩ = some vn
  lt : bx < w.heap.size
  row : RowAt w vn (ns.map (Value.int .i64))
  len : ns.length ≤ maxLen
theorem Seen.keep {w w' : World} {bx : Nat} {vn : Value} {ns : List Int} (h : Seen w bx vn ns) (g : w.grownBy w' none) : Seen w' bx vn ns :=
  ⟨(World.cell?_of_block (g.block bx h.lt (by simp))).trans h.cell, Nat.lt_of_lt_of_le h.lt g.size, h.row.kept g, h.len⟩
theorem RowAt.chg {S : Nat → Prop} {w w' : World} {v : Value} {xs : List Value} (h : RowAt w v xs) (g : Chg S w w') (hn : ∀ b, v.ownBlock = some b → ¬ S b) : RowAt w' v xs := by
  obtain ⟨a, cap, rfl, h⟩ := h
  refine ⟨a, cap, rfl, ?_⟩
  rcases h with h | ⟨b, off, rfl, hb, hc⟩
  · exact .inl h
  · exact .inr ⟨b, off, rfl, Nat.lt_of_lt_of_le hb g.size, fun j hj => by rw [← hc j hj]; exact World.cell?_of_block (g.block b hb (hn b rfl))⟩
theorem Seen.chg {S : Nat → Prop} {w w' : World} {bx : Nat} {vn : Value} {ns : List Int} (h : Seen w bx vn ns) (g : Chg S w w') (h1 : ¬ S bx) (h2 : ∀ b, vn.ownBlock = some b → ¬ S b) : Seen w' bx vn ns :=
  ⟨(World.cell?_of_block (g.block bx h.lt h1)).trans h.cell, Nat.lt_of_lt_of_le h.lt g.size, h.row.chg g h2, h.len⟩
def FirstR (p : Lt → Bool) (L : List Lt) (r : Int) : Prop := (r = -1 ∧ ∀ x ∈ L, p x = false) ∨ ∃ j : Nat, r = (j : Int) ∧ ∃ h : j < L.length, p L[j] = true ∧ ∀ x ∈ L.take j, p x = false
def IndexFR (ns : List Int) (L : List Lt) (w : World) (e : Ending) (w' : World) : Prop := (∃ r : Int, e = .returned (.int .i64 r) ∧ FirstR (hitB ns) L r) ∧ w.grownBy w' none
set_option maxRecDepth 100000 in
set_option maxHeartbeats 1000000 in
theorem IndexFunc_any (v : Value) (L : List Lt) (bx : Nat) (vn : Value) (ns : List Int) (w : World) (hr : ReadK Lt.cells 3 w v L) (hl : L.length ≤ 512) (hs : Seen w bx vn ns) :
    Calls Try.prog 36 #[v, .func (.func 34) #[] #[.pointer (some ⟨bx, 0, none⟩)]] w (IndexFR ns L w) := by
  obtain ⟨p, c, rfl⟩ := hr.len
  have il : (L.length : Int) ≤ 512 := by omega
  have HS := Lib.hid hs
  clear hs
  go_enter Try.func36, Try.ntmps36
  go_wp2
  go_loopw [8] (fun i wr => ∃ k : Nat, i = .int .i64 k ∧ k ≤ L.length ∧ (∀ x ∈ L.take k, hitB ns x = false) ∧ w.grownBy wr none) (fun i _ => L.length - (intOf i).toNat)
  case atStart => exact ⟨0, rfl, Nat.zero_le _, by simp, grow_refl _ _⟩
  case round =>
    obtain ⟨k, rfl, hk, hno, hg⟩ := hrel
    have HN := Lib.hid hno
    clear hno
    by_cases hlt : k < L.length
    · obtain ⟨x, hx⟩ : ∃ x, x = L[k] := ⟨_, rfl⟩
      obtain ⟨g, off, rfl, hgl, r0, r1, r2⟩ := lt_at (hr.kept hg) rfl k hlt x (by rw [hx, List.getElem?_eq_getElem])
      have HX := Lib.hid hx
      clear hx
      have i1 : (k : Int) < L.length := by omega
      have i0 : (0 : Int) ≤ k := by omega
      have S1 := HS.out.keep hg
      have i3 : (k : Int) ≤ 512 := by omega
      go_wp2_with fail
      refine (hit_any x bx vn ns _ S1.cell S1.lt S1.row S1.len).mono ?_
      rintro e w1 ⟨rfl, g1⟩
      have G1 := grow_none hg g1
      cases hh : hitB ns x
      · have HH := Lib.hid hh
        clear hh
        go_wp2
        go_roundw
        case rel => exact ⟨k + 1, by go_num, by omega, fun y hy => by
          rw [take_snocL L k hlt] at hy
          rcases List.mem_append.1 hy with hy | hy
          · exact HN.out y hy
          · rw [List.mem_singleton.1 hy, ← HX.out]; exact HH.out, G1⟩
        case measure => simp [intOf]; omega
      · have HH := Lib.hid hh
        clear hh
        go_wp2
        go_ret
        exact ⟨⟨(k : Int), rfl, .inr ⟨k, rfl, hlt, by rw [← HX.out]; exact HH.out, HN.out⟩⟩, G1⟩
    · obtain rfl : k = L.length := by omega
      go_wp2
      go_ret
      exact ⟨⟨-1, rfl, .inl ⟨rfl, by have := HN.out; rwa [List.take_length] at this⟩⟩, hg⟩
end Go.Proofs.Ytpmfgjhkdokcbaa
