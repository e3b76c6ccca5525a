/- Several texts in one: DkA DkB DkC DkD DkE DkF. -/
import Derived.Test.YtphljjgjpkdpmaaGreatDoorChecked
import Derived.Test.YtphljjgjpkdpmaaGreatDoorK14
import Derived.Test.YtphljjgjpkdpmaaGreatDoorK5
import Derived.Maps.Views
import Derived.Maps.OwnSet
import Derived.StringKeys
import Derived.Laws.Cover3
import Derived.Outline
import Derived.Test.YtphljjgjpkdpmaaGreatDoorK3
/- Stage 5: the files of a drive in memory: a map of names to blocks. -/
namespace Go.Proofs.YtphljjgjpkdpmaaGreatDoor
open Go.RowKit
set_option linter.unusedVariables false
/-- A pointer to the head of a block reads as the block's number. -/
def Rp : Value → Option (DataW Unit × List MemPlace)
  | .pointer (some ⟨g, 0, none⟩) => some (.lit (.int .i64 g), [])
  | .pointer none => some (.nil, [])
  | _ => none
def Pp : Option Nat → Value
  | some g => .pointer (some ⟨g, 0, none⟩)
  | none => .pointer none
def Dp : Option Nat → DataW Unit
  | some g => .lit (.int .i64 g)
  | none => .nil
theorem Rp_mk : ∀ o : Option Nat, Rp (Pp o) = some (Dp o, [])
  | some g => rfl
  | none => rfl
theorem Rp_inv {v : Value} {o : Option Nat} {ps : List MemPlace} (h : Rp v = some (Dp o, ps)) : v = Pp o := by
  unfold Rp at h
  split at h
  · rename_i g
    simp only [Option.some.injEq, Prod.mk.injEq] at h
    obtain ⟨h, _⟩ := h
    cases o with
    | none => cases h
    | some k =>
      simp only [Dp, DataW.lit.injEq, Lit.int.injEq] at h
      have : g = k := by omega
      subst this; rfl
  · simp only [Option.some.injEq, Prod.mk.injEq] at h
    obtain ⟨h, _⟩ := h
    cases o with
    | none => rfl
    | some k => cases h
  · cases h
theorem Dp_inj {a b : Option Nat} (h : Dp a = Dp b) : a = b := by
  cases a <;> cases b <;> simp [Dp] at h ⊢
  omega
theorem bytes_inj {s t : ByteArray} (h : s.data.toList = t.data.toList) : s = t := by
  apply ByteArray.ext; exact Array.ext' h
theorem strKeyed : Go.Maps.Keyed Tryz.prog 9 := Go.Maps.string_keyed Tryz.underlying9
theorem zeroP (w : World) : (zeroValue 85).run Tryz.prog w = .ok (Pp none) w := by kernel_rfl
theorem mapNil (mb : Nat) (w : World) : (binOp .eql 56 (.map (some mb)) (.map none)).run Tryz.prog w = .ok (.bool false) w := by
  simp only [binOp]
  simp [run_equal_map_nil (P := Tryz.prog) w 56 _ _ (some mb) Tryz.underlying56]
/-- Block b is a map of at most n names to blocks. -/
def MapG (w : World) (b n : Nat) (G : ByteArray → Option Nat) : Prop :=
  ∃ D : DataW Unit, w.ownsMap Tryz.prog 9 Rp b n D ∧ (∀ s : ByteArray, D.atKey (.string s.data.toList) .nil = Dp (G s)) ∧ ∀ s : ByteArray, Go.Maps.has D (.string s.data.toList) = (G s).isSome
theorem MapG.lt {w : World} {b n : Nat} {G : ByteArray → Option Nat} (h : MapG w b n G) : b < w.heap.size := by
  obtain ⟨D, h, _⟩ := h; exact h.lt
theorem MapG.made (w : World) : MapG (w.alloc (.map #[] 0)) w.heap.size 0 (fun _ => none) :=
  ⟨_, World.ownsMap_made w _ _ _, fun s => rfl, fun s => rfl⟩
theorem MapG.kept {w w' : World} {b n : Nat} {G : ByteArray → Option Nat} {r : Option Nat} (h : MapG w b n G) (g : w.grownBy w' r) (hr : some b ≠ r) : MapG w' b n G := by
  obtain ⟨D, h, hD⟩ := h
  exact ⟨D, h.kept g hr, hD⟩
theorem MapG.chg {S : Nat → Prop} {w w' : World} {b n : Nat} {G : ByteArray → Option Nat} (h : MapG w b n G) (g : Chg S w w') (hn : ¬ S b) : MapG w' b n G := by
  obtain ⟨D, ⟨es, clock, hb, F, hs, e⟩, hD⟩ := h
  exact ⟨D, ⟨es, clock, (g.block b (Array.getElem?_eq_some_iff.1 hb).1 hn).trans hb, F, hs, e⟩, hD⟩
theorem MapG.look {w : World} {b n : Nat} {G : ByteArray → Option Nat} (h : MapG w b n G) (s : ByteArray) (hs : s.size ≤ maxLen) :
    (Instr.lookup 56 (.map (some b)) (.string s) false).run Tryz.prog w = .ok (Pp (G s)) w := by
  obtain ⟨D, h, hD⟩ := h
  obtain ⟨v, ps, hrun, hv⟩ := h.lookup strKeyed Tryz.underlying56 (zeroP w) (Rp_mk none) (Go.WideMaps.keyOf_string_mk Tryz.underlying9 hs)
  rw [show Dp none = DataW.nil from rfl, hD.1] at hv
  rw [hrun, Rp_inv hv]
def putG (G : ByteArray → Option Nat) (s : ByteArray) (f : Option Nat) : ByteArray → Option Nat := fun x => if x = s then f else G x
/-- At the operation. -/
theorem wpList_putG (w : World) {ops : Array Oper} {rest : List Oper} {o : Oper} {a : Act} {Q : Exit → Act → World → Prop} (hg : o.guard = none) (m x v : Operand) (hop : o.op = Op.mapUpdate 56 m x v)
    (b n : Nat) (G : ByteArray → Option Nat) (hm : a.eval m = .map (some b)) (hown : MapG w b n G) (hn : n < maxLen) (s : ByteArray) (f : Nat) (hx : a.eval x = .string s) (hv : a.eval v = Pp (some f)) (hs : s.size ≤ maxLen)
    (hK : ∀ w', MapG w' b (n + 1) (putG G s (some f)) → w.grownBy w' (some b) → wpList Tryz.prog ops Q rest (a.put o.dst undef) w') :
    wpList Tryz.prog ops Q (o :: rest) a w := by
  obtain ⟨D, h, hD⟩ := hown
  refine wpList_mapUpdate_own w hg m x v 56 hop 9 85 strKeyed Tryz.underlying56 Rp b n D hm h hn (.string s) (Pp (some f)) (.string s.data.toList) hx hv (Go.WideMaps.keyOf_string_mk Tryz.underlying9 hs) (Dp (some f)) [] (Rp_mk _) ?_
  intro w' h1 h2
  refine hK w' ⟨_, h1, fun t => ?_, fun t => ?_⟩ h2
  rotate_left
  · unfold putG
    by_cases e : t = s
    · subst e
      rw [if_pos rfl, Go.Maps.has_put_same (h.isMap) (show WideAt.IsKeyLit (.string t.data.toList) from trivial)]; rfl
    · rw [if_neg e, Go.Maps.has_put_other (by intro e2; injection e2 with e2; exact e (bytes_inj e2)), hD.2]
  unfold putG
  by_cases e : t = s
  · subst e
    rw [if_pos rfl, Go.Maps.atKey_put_same (h.isMap) (show WideAt.IsKeyLit (.string t.data.toList) from trivial)]
  · rw [if_neg e, Go.Maps.atKey_put_other (by intro e2; injection e2 with e2; exact e (bytes_inj e2)), hD.1]
theorem wpList_delG {w : World} {ops : Array Oper} {rest : List Oper} {o : Oper} {a : Act} {Q : Exit → Act → World → Prop} (hg : o.guard = none) (m x : Operand) (hop : o.op = Op.call { callee := Callee.builtin Builtin.delete, args := #[m, x], argTypes := #[56, 9] })
    (b n : Nat) (G : ByteArray → Option Nat) (hm : a.eval m = .map (some b)) (hown : MapG w b n G) (s : ByteArray) (hx : a.eval x = .string s) (hs : s.size ≤ maxLen)
    (hK : ∀ w', MapG w' b n (putG G s none) → w.grownBy w' (some b) → wpList Tryz.prog ops Q rest (a.put o.dst (.tuple #[])) w') :
    wpList Tryz.prog ops Q (o :: rest) a w := by
  obtain ⟨D, h, hD⟩ := hown
  refine wpList_delete_own w hg m x 56 9 hop 85 strKeyed Tryz.underlying56 Rp b n D hm h (.string s) (.string s.data.toList) hx (Go.WideMaps.keyOf_string_mk Tryz.underlying9 hs) ?_
  intro w' h1 h2
  refine hK w' ⟨_, h1, fun t => ?_, fun t => ?_⟩ h2.grown
  rotate_left
  · unfold putG
    by_cases e : t = s
    · subst e
      rw [if_pos rfl, Go.Maps.has_del_same]; rfl
    · rw [if_neg e, Go.Maps.has_del_other (by intro e2; injection e2 with e2; exact e (bytes_inj e2)), hD.2]
  unfold putG
  by_cases e : t = s
  · subst e
    rw [if_pos rfl, Go.Maps.atKey_del_same]; rfl
  · rw [if_neg e, Go.Maps.atKey_del_other (by intro e2; injection e2 with e2; exact e (bytes_inj e2)), hD.1]
end Go.Proofs.YtphljjgjpkdpmaaGreatDoor
/- Stage 5: what a file has. -/
namespace Go.Proofs.YtphljjgjpkdpmaaGreatDoor
open Go.RowKit
set_option linter.unusedVariables false
/-- A file: what lasts, what waits; is it firm? -/
structure Ent where
  l : ByteArray
  w : ByteArray
  s : Bool
def FB (w : World) (g : Nat) (e : Ent) : Prop := Blk w g 89 [.string e.l, .string e.w, .bool e.s]
def Ent.sz (e : Ent) : Nat := e.l.size + e.w.size
theorem FB.c0 {w : World} {g : Nat} {e : Ent} (h : FB w g e) : w.cell? ⟨g, 0, none⟩ = some (.string e.l) := Blk.cell h 0 (by simp)
theorem FB.c1 {w : World} {g : Nat} {e : Ent} (h : FB w g e) : w.cell? ⟨g, 1, none⟩ = some (.string e.w) := Blk.cell h 1 (by simp)
theorem FB.c2 {w : World} {g : Nat} {e : Ent} (h : FB w g e) : w.cell? ⟨g, 2, none⟩ = some (.bool e.s) := Blk.cell h 2 (by simp)
theorem FB.fr {w : World} {g : Nat} {e : Ent} (h : FB w g e) (i : Nat) : w.frozen? ⟨g, i, none⟩ = false := Blk.frozen h i
theorem FB.set1 {w : World} {g : Nat} {e : Ent} (h : FB w g e) (x : ByteArray) : FB (w.setCell ⟨g, 1, none⟩ (.string x)) g ⟨e.l, x, e.s⟩ := Blk.set_ h 1 _
theorem FB.set0 {w : World} {g : Nat} {e : Ent} (h : FB w g e) (x : ByteArray) : FB (w.setCell ⟨g, 0, none⟩ (.string x)) g ⟨x, e.w, e.s⟩ := Blk.set_ h 0 _
theorem FB.set2 {w : World} {g : Nat} {e : Ent} (h : FB w g e) (x : Bool) : FB (w.setCell ⟨g, 2, none⟩ (.bool x)) g ⟨e.l, e.w, x⟩ := Blk.set_ h 2 _
set_option maxRecDepth 100000 in
theorem has_any (g : Nat) (e : Ent) (w : World) (h : FB w g e) (hs : e.sz ≤ 1048576) :
    Calls Tryz.prog 51 #[.pointer (some ⟨g, 0, none⟩)] w fun en w' => en = .returned (.string (e.l ++ e.w)) ∧ w.grownBy w' none := by
  have c0 := h.c0
  have c1 := h.c1
  have hb : ¬ 9223372036854775807 < e.l.size + e.w.size := by unfold Ent.sz at hs; omega
  clear hs
  go_enter Tryz.func51, Tryz.ntmps51
  go_wp2
  go_quiet (fail)
  go_wp2
  go_ret
  exact ⟨rfl, grow_drawnN _ (grow_refl _ _)⟩
set_option maxRecDepth 100000 in
theorem dSize_any (g : Nat) (e : Ent) (w : World) (h : FB w g e) (hs : e.sz ≤ 1048576) :
    Calls Tryz.prog 64 #[.pointer (some ⟨g, 0, none⟩)] w fun en w' => en = .returned (.int .i64 e.sz) ∧ w.grownBy w' none := by
  have c0 := h.c0
  have c1 := h.c1
  obtain ⟨a, ha⟩ : ∃ a, a = e.l.size := ⟨_, rfl⟩
  have hz : (e.sz : Int) = (e.l.size : Int) + (e.w.size : Int) := by unfold Ent.sz; omega
  have h1 : (e.l.size : Int) ≤ 1048576 := by unfold Ent.sz at hs; omega
  have h2 : (e.w.size : Int) ≤ 1048576 := by unfold Ent.sz at hs; omega
  have hw : IntKind.i64.wrap ((e.l.size : Int) + (e.w.size : Int)) = (e.l.size : Int) + (e.w.size : Int) := by rw [IntKind.wrap_i64]; omega
  have HZ := Lib.hid hz
  clear hs hz ha
  go_enter Tryz.func64, Tryz.ntmps64
  go_wp2
  go_quiet (fail)
  go_wp2
  go_ret
  exact ⟨by rw [HZ.out]; rfl, grow_drawnN _ (grow_refl _ _)⟩
set_option maxRecDepth 100000 in
theorem put_any (g : Nat) (e : Ent) (x : ByteArray) (w : World) (h : FB w g e) (hs : e.sz + x.size ≤ 1048576) :
    Calls Tryz.prog 66 #[.pointer (some ⟨g, 0, none⟩), .string x] w fun en w' => en = .returned (.tuple #[]) ∧ FB w' g ⟨e.l, e.w ++ x, e.s⟩ ∧ w.grownBy w' (some g) := by
  have c1 := h.c1
  have f1 := h.fr 1
  have hb : ¬ 9223372036854775807 < e.w.size + x.size := by unfold Ent.sz at hs; omega
  clear hs
  go_enter Tryz.func66, Tryz.ntmps66
  go_wp2
  go_end0
  exact ⟨rfl, h.set1 _, grow_set _ _ _⟩
theorem ext_all (x : ByteArray) (k : Nat) (h : k = x.size) : x.extract 0 k = x := by
  subst h
  apply ByteArray.ext
  simp
theorem ext_none (x : ByteArray) (k : Nat) (h : k = 0) : x.extract 0 k = ByteArray.empty := by
  subst h
  apply ByteArray.ext
  simp
theorem app_none (x : ByteArray) : x ++ ByteArray.empty = x := by
  apply ByteArray.ext
  simp
/-- The first n bytes that wait last. -/
def settleE (e : Ent) (n : Int) : Ent := ⟨e.l ++ e.w.extract 0 (max 0 (min n (e.w.size : Int))).toNat, ⟨#[]⟩, e.s⟩
set_option maxRecDepth 100000 in
set_option maxHeartbeats 1000000 in
theorem settle_any (g : Nat) (e : Ent) (n : Int) (w : World) (h : FB w g e) (hs : e.sz ≤ 1048576) :
    Calls Tryz.prog 49 #[.pointer (some ⟨g, 0, none⟩), .int .i64 n] w fun en w' => en = .returned (.tuple #[]) ∧ FB w' g (settleE e n) ∧ w.grownBy w' (some g) := by
  have h0 := h
  have c0 := h.c0
  have c1 := h.c1
  have f0 := h.fr 0
  have f1 := h.fr 1
  obtain ⟨k, hk⟩ : ∃ k : Nat, k = (max 0 (min n (e.w.size : Int))).toNat := ⟨_, rfl⟩
  have hkI : max 0 (min n (e.w.size : Int)) = (k : Int) := by omega
  have hkw : k ≤ e.w.size := by omega
  have HSE : Hid (settleE e n = ⟨e.l ++ e.w.extract 0 k, ⟨#[]⟩, e.s⟩) := by show _ = _; unfold settleE; rw [← hk]
  have hki : (k : Int) ≤ e.w.size := by omega
  have hsz : (e.w.extract 0 k).size = k := by rw [ByteArray.size_extract]; omega
  have hb : ¬ 9223372036854775807 < e.l.size + (e.w.extract 0 k).size := by rw [hsz]; unfold Ent.sz at hs; omega
  have hb2 : ¬ 9223372036854775807 < e.l.size + k := by unfold Ent.sz at hs; omega
  clear hs hk
  go_enter Tryz.func49, Tryz.ntmps49
  go_wp2
  go_region
  all_goals
    go_wp2
  all_goals
    go_end0
    first
      | exact ⟨rfl, by rw [HSE.out, ext_none e.w k (by omega), app_none]; exact (h0.set0 _).set1 _, grow_drawn (grow_same (grow_set _ _ _) (grow_set _ ⟨g, 1, none⟩ _))⟩
      | exact ⟨rfl, by rw [HSE.out, ext_all e.w k (by omega)]; exact (h0.set0 _).set1 _, grow_drawn (grow_same (grow_set _ _ _) (grow_set _ ⟨g, 1, none⟩ _))⟩
      | exact ⟨rfl, by rw [HSE.out, show k = n.toNat by omega]; exact (h0.set0 _).set1 _, grow_drawn (grow_same (grow_set _ _ _) (grow_set _ ⟨g, 1, none⟩ _))⟩
end Go.Proofs.YtphljjgjpkdpmaaGreatDoor
/- Stage 5: a drive; its names, its steps. -/
namespace Go.Proofs.YtphljjgjpkdpmaaGreatDoor
open Go.RowKit
set_option linter.unusedVariables false
def okC (c : UInt8) : Bool := (97 ≤ c && c ≤ 122) || (48 ≤ c && c ≤ 57) || c == 46
def nameB (s : ByteArray) : Bool := s.data.toList.all okC && decide (s.size ≠ 0) && decide (s.size ≤ 80)
theorem getb (s : ByteArray) (k : Nat) (h : k < s.size) : s.data.toList[k]'(by simpa using h) = s[k] := rfl
theorem bytes_eq_empty {s : ByteArray} (h : s.size = 0) : s = ⟨#[]⟩ := by
  apply ByteArray.ext
  exact Array.eq_empty_of_size_eq_zero h
theorem toList_nil {s : ByteArray} (h : s.size = 0) : s.toList = [] := by rw [bytes_eq_empty h, ByteArray.toList_eq]
theorem toList_ne {s : ByteArray} (h : s.size ≠ 0) : s.toList ≠ [] := by
  rw [ByteArray.toList_eq]
  intro e
  apply h
  have : s.data.toList.length = 0 := by rw [e]; rfl
  simpa using this
set_option maxRecDepth 100000 in
set_option maxHeartbeats 1000000 in
theorem nameMayBe_any (s : ByteArray) (w : World) (hs : s.size ≤ maxLen) : Calls Tryz.prog 88 #[.string s] w fun e w' => e = .returned (.bool (nameB s)) ∧ w = w' := by
  have hi : (s.size : Int) ≤ 9223372036854775807 := by unfold maxLen at hs; omega
  clear hs
  go_enter Tryz.func88, Tryz.ntmps88
  go_wp2
  go_loop [7] (fun i => ∃ k : Nat, k ≤ s.size ∧ i = .int .i64 k ∧ ∀ j (h : j < s.size), j < k → okC s[j] = true) (fun i => s.size - (intOf i).toNat)
  case atStart => exact ⟨0, Nat.zero_le _, rfl, fun j h hj => absurd hj (Nat.not_lt_zero _)⟩
  case round =>
    obtain ⟨k, hk, rfl, hall⟩ := hrel
    have HALL := Lib.hid hall
    clear hall
    by_cases hlt : k < s.size
    · obtain ⟨c, hc⟩ : ∃ c, c = s[k] := ⟨_, rfl⟩
      have HC := Lib.hid hc
      have i1 : (k : Int) < s.size := by omega
      have i0 : (0 : Int) ≤ k := by omega
      have hx : (s[k].toNat : Int) = (c.toNat : Int) := by rw [hc]
      clear hc
      cases hok : okC c
      · have HF : Hid (nameB s = false) := by
          show _ = _
          unfold nameB
          have : s.data.toList.all okC = false := by
            rw [List.all_eq_false]
            exact ⟨s[k], by rw [← getb s k hlt]; exact List.getElem_mem _, by rw [← HC.out, hok]; simp⟩
          rw [this]; rfl
        unfold okC at hok
        simp only [Bool.or_eq_false_iff, Bool.and_eq_false_iff, decide_eq_false_iff_not, UInt8.not_le, UInt8.lt_iff_toNat_lt, beq_eq_false_iff_ne, ne_eq] at hok
        obtain ⟨⟨h1, h2⟩, h3⟩ := hok
        have h4 : c.toNat ≠ 46 := fun e => h3 (UInt8.toNat_inj.1 e)
        have h1' : c.toNat < 97 ∨ 122 < c.toNat := by simpa using h1
        have h2' : c.toNat < 48 ∨ 57 < c.toNat := by simpa using h2
        have d3 : ((c.toNat : Int) != 46) = true := by simp; omega
        clear h1 h2 h3
        rcases h1' with a | a <;> rcases h2' with b | b
        all_goals
          first
          | (exfalso; omega)
          | (have p1 : (c.toNat : Int) < 97 := by omega
             have p2 : (c.toNat : Int) < 48 := by omega
             clear a b h4
             go_wp2
             go_ret
             exact ⟨by rw [HF.out]; rfl, rfl⟩)
          | (have p1 : (c.toNat : Int) < 97 := by omega
             have p2 : ¬ (c.toNat : Int) < 48 := by omega
             have p3 : (57 : Int) < c.toNat := by omega
             clear a b h4
             go_wp2
             go_ret
             exact ⟨by rw [HF.out]; rfl, rfl⟩)
          | (have p1 : ¬ (c.toNat : Int) < 97 := by omega
             have p2 : (122 : Int) < c.toNat := by omega
             have p3 : ¬ (c.toNat : Int) < 48 := by omega
             have p4 : (57 : Int) < c.toNat := by omega
             clear a b h4
             go_wp2
             go_ret
             exact ⟨by rw [HF.out]; rfl, rfl⟩)
      · have HOK : Hid (okC c = true) := hok
        unfold okC at hok
        simp only [Bool.or_eq_true, Bool.and_eq_true, decide_eq_true_eq, UInt8.le_iff_toNat_le, beq_iff_eq] at hok
        have hcs : (97 ≤ c.toNat ∧ c.toNat ≤ 122) ∨ (48 ≤ c.toNat ∧ c.toNat ≤ 57) ∨ c.toNat = 46 := by
          rcases hok with (h | h) | h
          · exact .inl (by simpa using h)
          · exact .inr (.inl (by simpa using h))
          · exact .inr (.inr (by rw [h]; rfl))
        clear hok
        rcases hcs with ⟨a, b⟩ | ⟨a, b⟩ | a
        · have p1 : (97 : Int) ≤ c.toNat := by omega
          have p2 : (c.toNat : Int) ≤ 122 := by omega
          clear a b
          go_wp2
          go_round
          case rel => exact ⟨k + 1, by omega, by go_num, fun j h hj => by
            by_cases e : j = k
            · subst e; rw [← HC.out]; exact HOK.out
            · exact HALL.out j h (by omega)⟩
          case measure => simp [intOf]; omega
        · have p1 : (c.toNat : Int) < 97 := by omega
          have p2 : (48 : Int) ≤ c.toNat := by omega
          have p3 : (c.toNat : Int) ≤ 57 := by omega
          clear a b
          go_wp2
          go_round
          case rel => exact ⟨k + 1, by omega, by go_num, fun j h hj => by
            by_cases e : j = k
            · subst e; rw [← HC.out]; exact HOK.out
            · exact HALL.out j h (by omega)⟩
          case measure => simp [intOf]; omega
        · have p1 : (c.toNat : Int) = 46 := by omega
          clear a
          go_wp2
          go_round
          case rel => exact ⟨k + 1, by omega, by go_num, fun j h hj => by
            by_cases e : j = k
            · subst e; rw [← HC.out]; exact HOK.out
            · exact HALL.out j h (by omega)⟩
          case measure => simp [intOf]; omega
    · obtain rfl : k = s.size := by omega
      have hA : s.data.toList.all okC = true := by
        rw [List.all_eq_true]
        intro x hx
        obtain ⟨j, hj, rfl⟩ := List.mem_iff_getElem.1 hx
        have hj' : j < s.size := by simpa using hj
        exact HALL.out j hj' hj'
      by_cases h0 : s.size = 0
      · have HF : Hid (nameB s = false) := by show _ = _; unfold nameB; rw [hA, decide_eq_false (by omega : ¬ s.size ≠ 0)]; rfl
        have e1 := toList_nil h0
        clear hA h0
        go_wp2
        go_ret
        exact ⟨by rw [HF.out]; rfl, rfl⟩
      · have e1 : s.toList.isEmpty = false := by rw [List.isEmpty_eq_false_iff]; exact toList_ne h0
        by_cases h80 : s.size ≤ 80
        · have HF : Hid (nameB s = true) := by show _ = _; unfold nameB; rw [hA, decide_eq_true h0, decide_eq_true h80]; rfl
          have e2 : decide ((s.size : Int) ≤ 80) = true := decide_eq_true (by omega)
          clear hA h0
          go_wp2
          go_ret
          exact ⟨by rw [HF.out]; rfl, rfl⟩
        · have HF : Hid (nameB s = false) := by show _ = _; unfold nameB; rw [hA, decide_eq_true h0, decide_eq_false h80]; rfl
          have e2 : decide ((s.size : Int) ≤ 80) = false := decide_eq_false (by omega)
          clear hA h0
          go_wp2
          go_ret
          exact ⟨by rw [HF.out]; rfl, rfl⟩
end Go.Proofs.YtphljjgjpkdpmaaGreatDoor
/- Stage 5: a drive, whole; its steps. -/
namespace Go.Proofs.YtphljjgjpkdpmaaGreatDoor
open Go.RowKit
set_option linter.unusedVariables false
/-- What a drive is: its files, its fuse, is it down, how many steps were done. -/
structure Dk where
  F : ByteArray → Option Ent
  lit : Bool
  fuse : Nat
  down : Bool
  steps : Nat
/-- The drive lies in block b, its map in block mb, with at most n names, in the blocks G. -/
structure DAt (w : World) (b mb n : Nat) (G : ByteArray → Option Nat) (d : Dk) : Prop where
  blk : Blk w b 58 [.map (some mb), .bool d.lit, .int .i64 d.fuse, .bool d.down, .int .i64 d.steps]
  map : MapG w mb n G
  ent : ∀ s g, G s = some g → ∃ e, d.F s = some e ∧ FB w g e ∧ e.sz ≤ 1048576
  non : ∀ s, G s = none → d.F s = none
  inj : ∀ s t g, G s = some g → G t = some g → s = t
  far : ∀ s g, G s = some g → g ≠ b ∧ g ≠ mb
  ne : b ≠ mb
  n1 : n ≤ 1000000
  f1 : d.fuse ≤ 9223372036854775807
  s1 : d.steps ≤ 1000000
/-- The blocks of a drive. -/
def DS (b mb : Nat) (G : ByteArray → Option Nat) : Nat → Prop := fun i => i = b ∨ i = mb ∨ ∃ s, G s = some i
section
variable {w w' : World} {b mb n : Nat} {G : ByteArray → Option Nat} {d : Dk}
theorem DAt.lt (h : DAt w b mb n G d) : b < w.heap.size := h.blk.lt
theorem DAt.c0 (h : DAt w b mb n G d) : w.cell? ⟨b, 0, none⟩ = some (.map (some mb)) := h.blk.cell 0 (by simp)
theorem DAt.c1 (h : DAt w b mb n G d) : w.cell? ⟨b, 1, none⟩ = some (.bool d.lit) := h.blk.cell 1 (by simp)
theorem DAt.c2 (h : DAt w b mb n G d) : w.cell? ⟨b, 2, none⟩ = some (.int .i64 d.fuse) := h.blk.cell 2 (by simp)
theorem DAt.c3 (h : DAt w b mb n G d) : w.cell? ⟨b, 3, none⟩ = some (.bool d.down) := h.blk.cell 3 (by simp)
theorem DAt.c4 (h : DAt w b mb n G d) : w.cell? ⟨b, 4, none⟩ = some (.int .i64 d.steps) := h.blk.cell 4 (by simp)
theorem DAt.fr (h : DAt w b mb n G d) (i : Nat) : w.frozen? ⟨b, i, none⟩ = false := h.blk.frozen i
theorem DAt.chg {S : Nat → Prop} (h : DAt w b mb n G d) (g : Chg S w w') (hn : ∀ i, DS b mb G i → ¬ S i) : DAt w' b mb n G d :=
  ⟨g.blk h.blk (hn b (.inl rfl)), h.map.chg g (hn mb (.inr (.inl rfl))), fun s x hx => by
    obtain ⟨e, h1, h2, h3⟩ := h.ent s x hx
    exact ⟨e, h1, g.blk h2 (hn x (.inr (.inr ⟨s, hx⟩))), h3⟩, h.non, h.inj, h.far, h.ne, h.n1, h.f1, h.s1⟩
theorem DAt.keep (h : DAt w b mb n G d) (g : w.grownBy w' none) : DAt w' b mb n G d := h.chg (Chg.of_none (S := fun _ => False) g) (fun _ _ h => h)
theorem DAt.live (h : DAt w b mb n G d) : ∀ i, DS b mb G i → i < w.heap.size := by
  rintro i (rfl | rfl | ⟨s, hs⟩)
  · exact h.lt
  · exact h.map.lt
  · obtain ⟨e, _, h2, _⟩ := h.ent s i hs
    exact Blk.lt h2
end
/-- Behind a call the drive is d', and only its own blocks are other ones. -/
def DEnd (b mb : Nat) (G : ByteArray → Option Nat) (n' : Nat) (d' : Dk) (w w' : World) : Prop := ∃ G', DAt w' b mb n' G' d' ∧ Chg (DS b mb G) w w' ∧ ∀ s g, G' s = some g → (∃ t, G t = some g) ∨ w.heap.size ≤ g
section
variable {w w1 w' : World} {b mb n : Nat} {G : ByteArray → Option Nat} {d : Dk}
theorem DEnd.same (h : DAt w b mb n G d) (g : w.grownBy w' none) : DEnd b mb G n d w w' := ⟨G, h.keep g, Chg.of_none g, fun s x hx => .inl ⟨s, hx⟩⟩
theorem DEnd.front (g : w.grownBy w1 none) (h : DEnd b mb G n d w1 w') : DEnd b mb G n d w w' := by
  obtain ⟨G', h1, h2, h3⟩ := h
  refine ⟨G', h1, (Chg.of_none g (S := DS b mb G)).trans h2 (fun _ _ h => h), fun s x hx => ?_⟩
  rcases h3 s x hx with y | y
  · exact .inl y
  · exact .inr (Nat.le_trans g.size y)
theorem DEnd.back (h : DEnd b mb G n d w w1) (g : w1.grownBy w' none) : DEnd b mb G n d w w' := by
  obtain ⟨G', h1, h2, h3⟩ := h
  exact ⟨G', h1.keep g, h2.trans (Chg.of_none g (S := DS b mb G)) (fun _ _ h => h), h3⟩
theorem DEnd.more {n1 n2 : Nat} {d1 d2 : Dk} (h : DEnd b mb G n1 d1 w w1) (k : ∀ G', DAt w1 b mb n1 G' d1 → DEnd b mb G' n2 d2 w1 w') : DEnd b mb G n2 d2 w w' := by
  obtain ⟨G1, h1, h2, h3⟩ := h
  obtain ⟨G2, k1, k2, k3⟩ := k G1 h1
  refine ⟨G2, k1, h2.trans k2 (fun i hi hs => ?_), fun s x hx => ?_⟩
  · rcases hs with y | y | ⟨t, y⟩
    · exact .inl y
    · exact .inr (.inl y)
    · rcases h3 t i y with z | z
      · exact .inr (.inr z)
      · omega
  · rcases k3 s x hx with ⟨t, y⟩ | y
    · exact h3 t x y
    · exact .inr (Nat.le_trans h2.size y)
theorem DEnd.after {G1 : ByteArray → Option Nat} {n2 : Nat} {d2 : Dk} (c : Chg (DS b mb G) w w1) (x : ∀ s g, G1 s = some g → (∃ t, G t = some g) ∨ w.heap.size ≤ g) (k : DEnd b mb G1 n2 d2 w1 w') : DEnd b mb G n2 d2 w w' := by
  obtain ⟨G2, k1, k2, k3⟩ := k
  refine ⟨G2, k1, c.trans k2 (fun i hi hs => ?_), fun s y hy => ?_⟩
  · rcases hs with z | z | ⟨t, z⟩
    · exact .inl z
    · exact .inr (.inl z)
    · rcases x t i z with v | v
      · exact .inr (.inr v)
      · omega
  · rcases k3 s y hy with ⟨t, z⟩ | z
    · exact x t y z
    · exact .inr (Nat.le_trans c.size z)
/-- A cell of the drive itself is another one. -/
theorem DAt.setb (h : DAt w b mb n G d) (i : Nat) (v : Value) (d' : Dk) (hF : d'.F = d.F) (hf : d'.fuse ≤ 9223372036854775807) (hs : d'.steps ≤ 1000000)
    (hx : ([.map (some mb), .bool d.lit, .int .i64 d.fuse, .bool d.down, .int .i64 d.steps] : List Value).set i v = [.map (some mb), .bool d'.lit, .int .i64 d'.fuse, .bool d'.down, .int .i64 d'.steps]) :
    DAt (w.setCell ⟨b, i, none⟩ v) b mb n G d' := by
  have g := grow_set w ⟨b, i, none⟩ v
  have hb := h.blk.set_ i v
  rw [hx] at hb
  refine ⟨hb, h.map.kept g (fun e => h.ne (by injection e with e; exact e.symm)), fun s x hx => ?_, fun s hs => by rw [hF]; exact h.non s hs, h.inj, h.far, h.ne, h.n1, hf, hs⟩
  obtain ⟨e, h1, h2, h3⟩ := h.ent s x hx
  exact ⟨e, by rw [hF]; exact h1, Blk.kept h2 g (fun e => (h.far s x hx).1 (by injection e)), h3⟩
theorem DEnd.setb (h : DAt w b mb n G d) (i : Nat) (v : Value) (d' : Dk) (hF : d'.F = d.F) (hf : d'.fuse ≤ 9223372036854775807) (hs : d'.steps ≤ 1000000)
    (hx : ([.map (some mb), .bool d.lit, .int .i64 d.fuse, .bool d.down, .int .i64 d.steps] : List Value).set i v = [.map (some mb), .bool d'.lit, .int .i64 d'.fuse, .bool d'.down, .int .i64 d'.steps]) :
    DEnd b mb G n d' w (w.setCell ⟨b, i, none⟩ v) :=
  ⟨G, h.setb i v d' hF hf hs hx, Chg.of_row (grow_set w ⟨b, i, none⟩ v) (fun k hk _ => .inl (by injection hk with hk; exact hk.symm)), fun s x hx => .inl ⟨s, hx⟩⟩
end
def refC (d : Dk) (s : ByteArray) : Int := if nameB s = false then 1 else if d.down then 50 else 0
set_option maxRecDepth 100000 in
theorem refuses_any (b mb n : Nat) (G : ByteArray → Option Nat) (d : Dk) (s : ByteArray) (w : World) (h : DAt w b mb n G d) (hs : s.size ≤ maxLen) :
    Calls Tryz.prog 63 #[.pointer (some ⟨b, 0, none⟩), .string s] w fun e w' => e = .returned (.int .i64 (refC d s)) ∧ w = w' := by
  have c3 := h.c3
  have NB := Lib.hid (nameMayBe_any s w hs)
  cases hn : nameB s
  · have HC : Hid (refC d s = 1) := by show _ = _; unfold refC; rw [if_pos hn]
    have HN := Lib.hid hn
    clear hn
    go_enter Tryz.func63, Tryz.ntmps63
    go_wp2_with fail
    refine NB.out.mono ?_
    rintro e w1 ⟨rfl, rfl⟩
    rw [HN.out]
    go_wp2
    go_ret
    exact ⟨by rw [HC.out]; rfl, rfl⟩
  · have HN := Lib.hid hn
    cases hd : d.down
    · have HC : Hid (refC d s = 0) := by show _ = _; unfold refC; rw [hn, hd]; rfl
      rw [hd] at c3
      clear hn hd
      go_enter Tryz.func63, Tryz.ntmps63
      go_wp2_with fail
      refine NB.out.mono ?_
      rintro e w1 ⟨rfl, rfl⟩
      rw [HN.out]
      go_wp2
      go_ret
      exact ⟨by rw [HC.out]; rfl, rfl⟩
    · have HC : Hid (refC d s = 50) := by show _ = _; unfold refC; rw [hn, hd]; rfl
      rw [hd] at c3
      clear hn hd
      go_enter Tryz.func63, Tryz.ntmps63
      go_wp2_with fail
      refine NB.out.mono ?_
      rintro e w1 ⟨rfl, rfl⟩
      rw [HN.out]
      go_wp2
      go_ret
      exact ⟨by rw [HC.out]; rfl, rfl⟩
/-- A step: what it answers, and what the drive is then. -/
def stepC (d : Dk) : Int := if d.lit = true ∧ d.fuse = 0 then 50 else 0
def stepD (d : Dk) : Dk := if d.lit = true ∧ d.fuse = 0 then { d with down := true } else { d with fuse := if d.lit then d.fuse - 1 else d.fuse, steps := d.steps + 1 }
set_option maxRecDepth 100000 in
set_option maxHeartbeats 1000000 in
theorem step_any (b mb n : Nat) (G : ByteArray → Option Nat) (d : Dk) (w : World) (h : DAt w b mb n G d) (hs : d.steps < 1000000) :
    Calls Tryz.prog 65 #[.pointer (some ⟨b, 0, none⟩)] w fun e w' => e = .returned (.int .i64 (stepC d)) ∧ DAt w' b mb n G (stepD d) ∧ w.grownBy w' (some b) := by
  have c1 := h.c1
  have c2 := h.c2
  have c3 := h.c3
  have c4 := h.c4
  have f2 := h.fr 2
  have f3 := h.fr 3
  have f4 := h.fr 4
  have H := Lib.hid h
  have hfu := h.f1
  have HF := Lib.hid hfu
  have fI : (d.fuse : Int) ≤ 9223372036854775807 := by omega
  have sI : (d.steps : Int) ≤ 1000000 := by omega
  clear hfu h
  cases hl : d.lit
  · have HC : Hid (stepC d = 0 ∧ stepD d = { d with steps := d.steps + 1 }) := by
      unfold stepC stepD
      rw [hl]
      exact ⟨rfl, by simp⟩
    rw [hl] at c1
    clear hl
    go_enter Tryz.func65, Tryz.ntmps65
    go_wp2
    go_ret
    refine ⟨by rw [HC.out.1]; rfl, ?_, grow_set _ _ _⟩
    rw [HC.out.2]
    exact H.out.setb 4 _ _ rfl HF.out (by show d.steps + 1 ≤ 1000000; omega) rfl
  · rw [hl] at c1
    by_cases h0 : d.fuse = 0
    · have HC : Hid (stepC d = 50 ∧ stepD d = { d with down := true }) := by
        unfold stepC stepD
        rw [if_pos ⟨hl, h0⟩, if_pos ⟨hl, h0⟩]
        exact ⟨rfl, rfl⟩
      have e0 : ((d.fuse : Int) == 0) = true := by rw [h0]; rfl
      clear hl h0
      go_enter Tryz.func65, Tryz.ntmps65
      go_wp2
      go_ret
      refine ⟨by rw [HC.out.1]; rfl, ?_, grow_set _ _ _⟩
      rw [HC.out.2]
      exact H.out.setb 3 _ _ rfl HF.out (by show d.steps ≤ 1000000; omega) rfl
    · have HC : Hid (stepC d = 0 ∧ stepD d = { d with fuse := d.fuse - 1, steps := d.steps + 1 }) := by
        unfold stepC stepD
        rw [if_neg (fun x => h0 x.2), if_neg (fun x => h0 x.2), hl]
        exact ⟨rfl, rfl⟩
      have e0 : ((d.fuse : Int) == 0) = false := by simp; omega
      have f0 : (1 : Int) ≤ d.fuse := by omega
      have HFU : Hid (((d.fuse - 1 : Nat) : Int) = (d.fuse : Int) - 1) := by show _ = _; omega
      have HL := Lib.hid hl
      clear hl h0
      go_enter Tryz.func65, Tryz.ntmps65
      go_wp2
      go_ret
      refine ⟨by rw [HC.out.1]; rfl, ?_, grow_same (grow_set _ _ _) (grow_set _ ⟨b, 4, none⟩ _)⟩
      rw [HC.out.2]
      have k1 := H.out.setb 2 (.int .i64 ((d.fuse : Int) - 1)) { d with fuse := d.fuse - 1 } rfl (by show d.fuse - 1 ≤ _; have := HF.out; omega) (by show d.steps ≤ 1000000; omega) (by rw [← HFU.out]; rfl)
      exact k1.setb 4 _ _ rfl (by show d.fuse - 1 ≤ _; have := HF.out; omega) (by show d.steps + 1 ≤ 1000000; omega) rfl
theorem DEnd.of_b {w w' : World} {b mb n : Nat} {G : ByteArray → Option Nat} {d : Dk} (h : DAt w' b mb n G d) (g : w.grownBy w' (some b)) : DEnd b mb G n d w w' :=
  ⟨G, h, Chg.of_row g (fun k hk _ => .inl (by injection hk with hk; exact hk.symm)), fun s x hx => .inl ⟨s, hx⟩⟩
end Go.Proofs.YtphljjgjpkdpmaaGreatDoor
/- Stage 5: New, Fuse, Down, Steps, Read, Append, Sync, Remove. -/
namespace Go.Proofs.YtphljjgjpkdpmaaGreatDoor
open Go.RowKit
set_option linter.unusedVariables false
def putE (F : ByteArray → Option Ent) (s : ByteArray) (e : Option Ent) : ByteArray → Option Ent := fun x => if x = s then e else F x
theorem putG_same {G : ByteArray → Option Nat} {s : ByteArray} {g : Nat} (h : G s = some g) : putG G s (some g) = G := by
  funext x
  unfold putG
  split
  · rename_i e; rw [e, h]
  · rfl
section
variable {w w' : World} {b mb n : Nat} {G : ByteArray → Option Nat} {d : Dk}
/-- A file of the drive is another one. -/
theorem DAt.file (h : DAt w b mb n G d) (s : ByteArray) (g : Nat) (hg : G s = some g) (e : Ent) (hb : FB w' g e) (hs : e.sz ≤ 1048576) (gr : w.grownBy w' (some g)) :
    DAt w' b mb n G { d with F := putE d.F s (some e) } := by
  have hf := h.far s g hg
  refine ⟨h.blk.kept gr (fun x => hf.1 (by injection x with x; exact x.symm)), h.map.kept gr (fun x => hf.2 (by injection x with x; exact x.symm)), fun t x hx => ?_, fun t ht => ?_, h.inj, h.far, h.ne, h.n1, h.f1, h.s1⟩
  · by_cases he : t = s
    · subst he
      rw [hg] at hx; injection hx with hx; subst hx
      exact ⟨e, by show putE d.F t (some e) t = some e; unfold putE; rw [if_pos rfl], hb, hs⟩
    · obtain ⟨e', h1, h2, h3⟩ := h.ent t x hx
      refine ⟨e', by show putE d.F s (some e) t = _; unfold putE; rw [if_neg he]; exact h1, Blk.kept h2 gr (fun y => ?_), h3⟩
      injection y with y
      exact he (h.inj t s g (by rw [hx, y]) hg)
  · show putE d.F s (some e) t = none
    unfold putE
    have : t ≠ s := by intro x; rw [x, hg] at ht; cases ht
    rw [if_neg this]; exact h.non t ht
theorem DEnd.file (h : DAt w b mb n G d) (s : ByteArray) (g : Nat) (hg : G s = some g) (e : Ent) (hb : FB w' g e) (hs : e.sz ≤ 1048576) (gr : w.grownBy w' (some g)) :
    DEnd b mb G n { d with F := putE d.F s (some e) } w w' :=
  ⟨G, h.file s g hg e hb hs gr, Chg.of_row gr (fun i hi _ => by injection hi with hi; subst hi; exact .inr (.inr ⟨s, hg⟩)), fun t x hx => .inl ⟨t, hx⟩⟩
/-- The map has a name more, or anew. -/
theorem DAt.mapPut (h : DAt w b mb n G d) (s : ByteArray) (f : Nat) (e : Ent) (hb : FB w f e) (hs : e.sz ≤ 1048576) (hf : (G s = some f ∧ d.F s = some e) ∨ (¬ DS b mb G f))
    (hm : MapG w' mb (n + 1) (putG G s (some f))) (gr : w.grownBy w' (some mb)) (hn : n + 1 ≤ 1000000) : DAt w' b mb (n + 1) (putG G s (some f)) { d with F := putE d.F s (some e) } := by
  have hfb : f ≠ b ∧ f ≠ mb := by
    rcases hf with ⟨x, _⟩ | x
    · exact h.far s f x
    · exact ⟨fun y => x (.inl y), fun y => x (.inr (.inl y))⟩
  refine ⟨h.blk.kept gr (fun x => h.ne (by injection x)), hm, fun t x hx => ?_, fun t ht => ?_, fun t u x ht hu => ?_, fun t x hx => ?_, h.ne, hn, h.f1, h.s1⟩
  · unfold putG at hx
    by_cases he : t = s
    · subst he
      rw [if_pos rfl] at hx; injection hx with hx; subst hx
      exact ⟨e, by show putE d.F t (some e) t = _; unfold putE; rw [if_pos rfl], Blk.kept hb gr (fun y => hfb.2 (by injection y)), hs⟩
    · rw [if_neg he] at hx
      obtain ⟨e', h1, h2, h3⟩ := h.ent t x hx
      exact ⟨e', by show putE d.F s (some e) t = _; unfold putE; rw [if_neg he]; exact h1, Blk.kept h2 gr (fun y => (h.far t x hx).2 (by injection y)), h3⟩
  · unfold putG at ht
    by_cases he : t = s
    · rw [if_pos he] at ht; cases ht
    · rw [if_neg he] at ht
      show putE d.F s (some e) t = none
      unfold putE; rw [if_neg he]; exact h.non t ht
  · unfold putG at ht hu
    have key : ∀ v, v ≠ s → G v = some f → False := fun v hv hv2 => by
      rcases hf with ⟨y, _⟩ | y
      · exact hv (h.inj v s f hv2 y)
      · exact y (.inr (.inr ⟨v, hv2⟩))
    by_cases he : t = s
    · by_cases hu' : u = s
      · rw [he, hu']
      · rw [if_pos he] at ht; rw [if_neg hu'] at hu
        injection ht with ht; subst ht
        exact absurd hu (fun y => key u hu' y)
    · by_cases hu' : u = s
      · rw [if_neg he] at ht; rw [if_pos hu'] at hu
        injection hu with hu; subst hu
        exact absurd ht (fun y => key t he y)
      · rw [if_neg he] at ht; rw [if_neg hu'] at hu
        exact h.inj t u x ht hu
  · unfold putG at hx
    by_cases he : t = s
    · rw [if_pos he] at hx; injection hx with hx; subst hx; exact hfb
    · rw [if_neg he] at hx; exact h.far t x hx
/-- A name is gone. -/
theorem DAt.mapDel (h : DAt w b mb n G d) (s : ByteArray) (hm : MapG w' mb n (putG G s none)) (gr : w.grownBy w' (some mb)) : DAt w' b mb n (putG G s none) { d with F := putE d.F s none } := by
  refine ⟨h.blk.kept gr (fun x => h.ne (by injection x)), hm, fun t x hx => ?_, fun t ht => ?_, fun t u x ht hu => ?_, fun t x hx => ?_, h.ne, h.n1, h.f1, h.s1⟩
  · unfold putG at hx
    by_cases he : t = s
    · rw [if_pos he] at hx; cases hx
    · rw [if_neg he] at hx
      obtain ⟨e', h1, h2, h3⟩ := h.ent t x hx
      exact ⟨e', by show putE d.F s none t = _; unfold putE; rw [if_neg he]; exact h1, Blk.kept h2 gr (fun y => (h.far t x hx).2 (by injection y)), h3⟩
  · show putE d.F s none t = none
    unfold putG at ht
    unfold putE
    by_cases he : t = s
    · rw [if_pos he]
    · rw [if_neg he] at ht ⊢; exact h.non t ht
  · unfold putG at ht hu
    by_cases he : t = s
    · rw [if_pos he] at ht; cases ht
    · by_cases hu' : u = s
      · rw [if_pos hu'] at hu; cases hu
      · rw [if_neg he] at ht; rw [if_neg hu'] at hu
        exact h.inj t u x ht hu
  · unfold putG at hx
    by_cases he : t = s
    · rw [if_pos he] at hx; cases hx
    · rw [if_neg he] at hx; exact h.far t x hx
theorem putG_old (s t : ByteArray) (x : Nat) (hx : putG G s none t = some x) : t ≠ s ∧ G t = some x := by
  unfold putG at hx
  by_cases he : t = s
  · rw [if_pos he] at hx; cases hx
  · rw [if_neg he] at hx; exact ⟨he, hx⟩
theorem DEnd.mapDel (h : DAt w b mb n G d) (s : ByteArray) (hm : MapG w' mb n (putG G s none)) (gr : w.grownBy w' (some mb)) : DEnd b mb G n { d with F := putE d.F s none } w w' :=
  ⟨putG G s none, h.mapDel s hm gr, Chg.of_row gr (fun i hi _ => by injection hi with hi; exact .inr (.inl hi.symm)), fun t x hx => .inl ⟨t, (putG_old s t x hx).2⟩⟩
end
def newD : Dk := ⟨fun _ => none, false, 0, false, 0⟩
theorem newD_at (w : World) : DAt ((w.alloc (.map #[] 0)).alloc (.cells #[.map (some w.heap.size), .bool false, .int .i64 0, .bool false, .int .i64 0] 58)) (w.heap.size + 1) w.heap.size 0 (fun _ => none) newD := by
  have hb := Blk.new (w.alloc (.map #[] 0)) 58 [.map (some w.heap.size), .bool false, .int .i64 0, .bool false, .int .i64 0]
  have e : (w.alloc (.map #[] 0)).heap.size = w.heap.size + 1 := by simp
  rw [e] at hb
  exact ⟨hb, (MapG.made w).kept (World.grownBy_alloc _ _ none) (by simp), (fun s g h => by cases h), (fun _ _ => rfl), (fun s t g h => by cases h), (fun s g h => by cases h), (by omega), Nat.zero_le _, Nat.zero_le _, Nat.zero_le _⟩
set_option maxRecDepth 100000 in
theorem New_any (w : World) : Calls Tryz.prog 10 #[] w fun e w' => e = .returned (.pointer (some ⟨w.heap.size + 1, 0, none⟩)) ∧ DAt w' (w.heap.size + 1) w.heap.size 0 (fun _ => none) newD ∧ w.grownBy w' none := by
  have hmm := @run_makeMap Tryz.prog
  go_enter Tryz.func10, Tryz.ntmps10
  go_wp2
  go_ret
  exact ⟨rfl, newD_at w, grow_alloc w _ (World.grownBy_alloc _ _ _)⟩
set_option maxRecDepth 100000 in
theorem Down_any (b mb n : Nat) (G : ByteArray → Option Nat) (d : Dk) (w : World) (h : DAt w b mb n G d) :
    Calls Tryz.prog 37 #[.pointer (some ⟨b, 0, none⟩)] w fun e w' => e = .returned (.bool d.down) ∧ w = w' := by
  have c3 := h.c3
  go_enter Tryz.func37, Tryz.ntmps37
  go_wp2
  go_ret
  exact ⟨rfl, rfl⟩
set_option maxRecDepth 100000 in
theorem Steps_any (b mb n : Nat) (G : ByteArray → Option Nat) (d : Dk) (w : World) (h : DAt w b mb n G d) :
    Calls Tryz.prog 22 #[.pointer (some ⟨b, 0, none⟩)] w fun e w' => e = .returned (.int .i64 d.steps) ∧ w = w' := by
  have c4 := h.c4
  go_enter Tryz.func22, Tryz.ntmps22
  go_wp2
  go_ret
  exact ⟨rfl, rfl⟩
def fuseD (d : Dk) (n : Int) : Dk := { d with lit := decide (0 ≤ n), fuse := n.toNat }
set_option maxRecDepth 100000 in
theorem Fuse_any (b mb n : Nat) (G : ByteArray → Option Nat) (d : Dk) (k : Int) (w : World) (h : DAt w b mb n G d) (hk : k ≤ 9223372036854775807) :
    Calls Tryz.prog 19 #[.pointer (some ⟨b, 0, none⟩), .int .i64 k] w fun e w' => e = .returned (.tuple #[]) ∧ DEnd b mb G n (fuseD d k) w w' := by
  have c1 := h.c1
  have c2 := h.c2
  have f1 := h.fr 1
  have f2 := h.fr 2
  have H := Lib.hid h
  have hs := h.s1
  have hf := h.f1
  have HS := Lib.hid hs
  have HF := Lib.hid hf
  clear h hs hf
  by_cases h0 : 0 ≤ k
  · obtain ⟨j, rfl⟩ : ∃ j : Nat, k = (j : Int) := ⟨k.toNat, by omega⟩
    have HD : Hid (fuseD d (j : Int) = { d with lit := true, fuse := j }) := by show _ = _; unfold fuseD; rw [decide_eq_true h0, Int.toNat_natCast]
    have hj : Hid (j ≤ 9223372036854775807) := by show _ ≤ _; omega
    have e1 : decide ((0 : Int) ≤ (j : Int)) = true := decide_eq_true h0
    have e2 : max (j : Int) 0 = (j : Int) := by omega
    clear hk h0
    go_enter Tryz.func19, Tryz.ntmps19
    go_wp2
    go_end0
    refine ⟨rfl, ?_⟩
    rw [HD.out]
    have k1 := DEnd.setb H.out 1 (.bool true) { d with lit := true } rfl HF.out HS.out rfl
    exact k1.more fun G' h' => DEnd.setb h' 2 _ _ rfl hj.out HS.out rfl
  · have HD : Hid (fuseD d k = { d with lit := false, fuse := 0 }) := by show _ = _; unfold fuseD; rw [decide_eq_false h0, show k.toNat = 0 by omega]
    have e1 : decide (0 ≤ k) = false := decide_eq_false h0
    have e2 : max k 0 = 0 := by omega
    have e3 : k < 0 := by omega
    clear hk h0
    go_enter Tryz.func19, Tryz.ntmps19
    go_wp2
    go_end0
    refine ⟨rfl, ?_⟩
    rw [HD.out]
    have k1 := DEnd.setb H.out 1 (.bool false) { d with lit := false } rfl HF.out HS.out rfl
    exact k1.more fun G' h' => DEnd.setb h' 2 _ _ rfl (Nat.zero_le _) HS.out rfl
def readR (d : Dk) (s : ByteArray) : ByteArray × Bool := if d.down then (⟨#[]⟩, false) else match d.F s with | none => (⟨#[]⟩, false) | some e => (e.l ++ e.w, true)
set_option maxRecDepth 100000 in
set_option maxHeartbeats 1000000 in
theorem dRead_any (b mb n : Nat) (G : ByteArray → Option Nat) (d : Dk) (s : ByteArray) (w : World) (h : DAt w b mb n G d) (hs : s.size ≤ maxLen) :
    Calls Tryz.prog 26 #[.pointer (some ⟨b, 0, none⟩), .string s] w fun e w' => e = .returned (.tuple #[.string (readR d s).1, .bool (readR d s).2]) ∧ w.grownBy w' none := by
  have c0 := h.c0
  have c3 := h.c3
  have hlk := h.map.look s hs
  cases hd : d.down
  · rw [hd] at c3
    cases hg : G s with
    | none =>
      have HR : Hid (readR d s = (⟨#[]⟩, false)) := by show _ = _; unfold readR; rw [hd, h.non s hg]; rfl
      rw [hg] at hlk
      unfold Pp at hlk
      clear hd hg h hs
      go_enter Tryz.func26, Tryz.ntmps26
      go_wp2
      go_ret2
      exact ⟨by rw [HR.out]; rfl, grow_refl _ _⟩
    | some g =>
      obtain ⟨e, he, hb, hz⟩ := h.ent s g hg
      have HR : Hid (readR d s = (e.l ++ e.w, true)) := by show _ = _; unfold readR; rw [hd, he]; rfl
      rw [hg] at hlk
      unfold Pp at hlk
      have HH := Lib.hid (has_any g e w hb hz)
      clear hd hg h hs he hz
      go_enter Tryz.func26, Tryz.ntmps26
      go_wp2_with fail
      refine HH.out.mono ?_
      rintro e' w1 ⟨rfl, g1⟩
      go_wp2
      go_ret2
      exact ⟨by rw [HR.out]; rfl, g1⟩
  · have HR : Hid (readR d s = (⟨#[]⟩, false)) := by show _ = _; unfold readR; rw [hd]; rfl
    rw [hd] at c3
    clear hd h hs
    go_enter Tryz.func26, Tryz.ntmps26
    go_wp2
    go_ret2
    exact ⟨by rw [HR.out]; rfl, grow_refl _ _⟩
set_option maxRecDepth 100000 in
theorem Down_nil (w : World) : Calls Tryz.prog 37 #[.pointer none] w fun e w' => e = .returned (.bool false) ∧ w = w' := by
  go_enter Tryz.func37, Tryz.ntmps37
  go_wp2
  go_ret
  exact ⟨rfl, rfl⟩
def stepOfC (d : Dk) (s : ByteArray) : Int := if refC d s ≠ 0 then refC d s else if (d.F s).isNone then 51 else stepC d
def stepOfD (d : Dk) (s : ByteArray) : Dk := if refC d s ≠ 0 then d else if (d.F s).isNone then d else stepD d
set_option maxRecDepth 100000 in
set_option maxHeartbeats 1000000 in
theorem stepOf_any (b mb n : Nat) (G : ByteArray → Option Nat) (d : Dk) (s : ByteArray) (w : World) (h : DAt w b mb n G d) (hs : s.size ≤ maxLen) (hst : d.steps < 1000000) :
    Calls Tryz.prog 67 #[.pointer (some ⟨b, 0, none⟩), .string s] w fun e w' => e = .returned (.int .i64 (stepOfC d s)) ∧ DEnd b mb G n (stepOfD d s) w w' := by
  have c0 := h.c0
  have hlk := h.map.look s hs
  have H := Lib.hid h
  have RF := Lib.hid (refuses_any b mb n G d s w h hs)
  have SP := Lib.hid (step_any b mb n G d w h hst)
  by_cases hr : refC d s = 0
  · cases hg : G s with
    | none =>
      have HC : Hid (stepOfC d s = 51 ∧ stepOfD d s = d) := by
        refine ⟨?_, ?_⟩
        · unfold stepOfC; rw [if_neg (fun x => x hr), h.non s hg]; rfl
        · unfold stepOfD; rw [if_neg (fun x => x hr), h.non s hg]; rfl
      have HR := Lib.hid hr
      rw [hg] at hlk
      unfold Pp at hlk
      clear hr hg h hs hst
      go_enter Tryz.func67, Tryz.ntmps67
      go_wp2_with fail
      refine RF.out.mono ?_
      rintro e w1 ⟨rfl, rfl⟩
      rw [HR.out]
      go_wp2
      go_ret
      exact ⟨by rw [HC.out.1]; rfl, by rw [HC.out.2]; exact DEnd.same H.out (grow_refl _ _)⟩
    | some g =>
      obtain ⟨e, he, hb, hz⟩ := h.ent s g hg
      have HC : Hid (stepOfC d s = stepC d ∧ stepOfD d s = stepD d) := by
        refine ⟨?_, ?_⟩
        · unfold stepOfC; rw [if_neg (fun x => x hr), he]; rfl
        · unfold stepOfD; rw [if_neg (fun x => x hr), he]; rfl
      have HR := Lib.hid hr
      rw [hg] at hlk
      unfold Pp at hlk
      clear hr hg h hs hst he hz
      go_enter Tryz.func67, Tryz.ntmps67
      go_wp2_with fail
      refine RF.out.mono ?_
      rintro e w1 ⟨rfl, rfl⟩
      rw [HR.out]
      go_wp2_with fail
      refine SP.out.mono ?_
      rintro e w1 ⟨rfl, hE⟩
      have hE2 := Lib.hid (DEnd.of_b hE.1 hE.2)
      clear hE
      go_wp2
      go_ret
      exact ⟨by rw [HC.out.1]; rfl, by rw [HC.out.2]; exact hE2.out⟩
  · have HC : Hid (stepOfC d s = refC d s ∧ stepOfD d s = d) := by
      unfold stepOfC stepOfD
      rw [if_pos hr, if_pos hr]
      exact ⟨rfl, rfl⟩
    have e1 : (refC d s != 0) = true := by simpa using hr
    clear hr h hs hst
    go_enter Tryz.func67, Tryz.ntmps67
    go_wp2_with fail
    refine RF.out.mono ?_
    rintro e w1 ⟨rfl, rfl⟩
    go_wp2
    go_ret
    exact ⟨by rw [HC.out.1]; rfl, by rw [HC.out.2]; exact DEnd.same H.out (grow_refl _ _)⟩
/-- Behind a step that was done the files are as they were. -/
theorem stepD_F (d : Dk) : (stepD d).F = d.F := by unfold stepD; split <;> rfl
theorem stepOfD_F (d : Dk) (s : ByteArray) : (stepOfD d s).F = d.F := by unfold stepOfD; split; rfl; split; rfl; exact stepD_F d
def removeD (d : Dk) (s : ByteArray) : Dk := if stepOfC d s = 0 then { stepOfD d s with F := putE d.F s none } else stepOfD d s
set_option maxRecDepth 100000 in
set_option maxHeartbeats 1000000 in
theorem Remove_any (b mb n : Nat) (G : ByteArray → Option Nat) (d : Dk) (s : ByteArray) (w : World) (h : DAt w b mb n G d) (hs : s.size ≤ maxLen) (hst : d.steps < 1000000) :
    Calls Tryz.prog 46 #[.pointer (some ⟨b, 0, none⟩), .string s] w fun e w' => e = .returned (.int .i64 (stepOfC d s)) ∧ DEnd b mb G n (removeD d s) w w' := by
  have SO := Lib.hid (stepOf_any b mb n G d s w h hs hst)
  have HS := Lib.hid hs
  clear h hst hs
  by_cases hr : stepOfC d s = 0
  · have HC : Hid (removeD d s = { stepOfD d s with F := putE (stepOfD d s).F s none }) := by show _ = _; unfold removeD; rw [if_pos hr, stepOfD_F]
    have HR := Lib.hid hr
    clear hr
    go_enter Tryz.func46, Tryz.ntmps46
    go_wp2_with fail
    refine SO.out.mono ?_
    rintro e w1 ⟨rfl, hE⟩
    rw [HR.out]
    obtain ⟨G1, h1, x1, x2⟩ := hE
    have X1 := Lib.hid x1
    have X2 := Lib.hid x2
    have c0 := h1.c0
    have H1 := Lib.hid h1
    clear h1 x1 x2
    go_wp2_with (refine wpList_delG rfl _ _ rfl mb n G1 rfl H1.out.map s rfl HS.out ?_)
    intro w2 hm g2
    have HE := Lib.hid (DEnd.after X1.out X2.out (DEnd.mapDel H1.out s hm g2))
    clear hm g2
    go_wp2
    go_ret
    exact ⟨by rw [HR.out]; rfl, by rw [HC.out]; exact HE.out⟩
  · have HC : Hid (removeD d s = stepOfD d s) := by show _ = _; unfold removeD; rw [if_neg hr]
    have e1 : (stepOfC d s == 0) = false := by simpa using hr
    clear hr
    go_enter Tryz.func46, Tryz.ntmps46
    go_wp2_with fail
    refine SO.out.mono ?_
    rintro e w1 ⟨rfl, hE⟩
    go_wp2
    go_ret
    exact ⟨rfl, by rw [HC.out]; exact hE⟩
def syncE (e : Ent) : Ent := ⟨(settleE e (e.w.size : Int)).l, (settleE e (e.w.size : Int)).w, true⟩
def syncD (d : Dk) (s : ByteArray) : Dk := if stepOfC d s = 0 then { stepOfD d s with F := putE d.F s ((d.F s).map syncE) } else stepOfD d s
theorem settle_sz (e : Ent) (n : Int) : (settleE e n).sz ≤ e.sz := by
  unfold settleE Ent.sz
  simp only [ByteArray.size_append, ByteArray.size_extract]
  show _ + 0 ≤ _
  omega
theorem stepOf_zero {d : Dk} {s : ByteArray} (h : stepOfC d s = 0) : ∃ e, d.F s = some e := by
  unfold stepOfC at h
  split at h
  · rename_i x; exact absurd h x
  · cases hf : d.F s with
    | none => rw [hf] at h; simp at h
    | some e => exact ⟨e, rfl⟩
set_option maxRecDepth 100000 in
set_option maxHeartbeats 2000000 in
theorem Sync_any (b mb n : Nat) (G : ByteArray → Option Nat) (d : Dk) (s : ByteArray) (w : World) (h : DAt w b mb n G d) (hs : s.size ≤ maxLen) (hst : d.steps < 1000000) :
    Calls Tryz.prog 33 #[.pointer (some ⟨b, 0, none⟩), .string s] w fun e w' => e = .returned (.int .i64 (stepOfC d s)) ∧ DEnd b mb G n (syncD d s) w w' := by
  have SO := Lib.hid (stepOf_any b mb n G d s w h hs hst)
  have HS := Lib.hid hs
  clear h hst hs
  by_cases hr : stepOfC d s = 0
  · obtain ⟨e, he⟩ := stepOf_zero hr
    have HC : Hid (syncD d s = { stepOfD d s with F := putE (stepOfD d s).F s (some (syncE e)) }) := by show _ = _; unfold syncD; rw [if_pos hr, stepOfD_F, he]; rfl
    have HR := Lib.hid hr
    have HEE : Hid ((stepOfD d s).F s = some e) := by show _ = _; rw [stepOfD_F, he]
    clear hr he
    go_enter Tryz.func33, Tryz.ntmps33
    go_wp2_with fail
    refine SO.out.mono ?_
    rintro e1 w1 ⟨rfl, hE⟩
    rw [HR.out]
    obtain ⟨G1, h1, x1, x2⟩ := hE
    have X1 := Lib.hid x1
    have X2 := Lib.hid x2
    have c0 := h1.c0
    have H1 := Lib.hid h1
    have hlk := h1.map.look s HS.out
    cases hg : G1 s with
    | none => have := h1.non s hg; rw [HEE.out] at this; cases this
    | some g =>
      obtain ⟨e', he', hb, hz⟩ := h1.ent s g hg
      obtain rfl : e = e' := by rw [HEE.out] at he'; injection he'
      rw [hg] at hlk
      unfold Pp at hlk
      have HG := Lib.hid hg
      have d0 := hb.c0
      have d1 := hb.c1
      have HB := Lib.hid hb
      have HZ := Lib.hid hz
      clear h1 x1 x2 hg he' hb hz
      go_wp2_with fail
      go_region_law (((with_reducible show (if Region.wanted (Oper.mk _ (Op.call { callee := .value (.func 49), args := _, argTypes := _ }) _ _ _ _) _ = true then _ else _)); refine step_wanted rfl ?_; go_simp; go_at_call 49; refine (settle_any g e (e.w.size : Int) _ (Blk.drew HB.out) HZ.out).mono ?_; rintro e2 w2 ⟨rfl, hb2, g2⟩; have m2 := hb2.c2; have n2 := hb2.fr 2))
      all_goals
        have HE := Lib.hid (DEnd.after X1.out X2.out (DEnd.file H1.out s g HG.out (syncE e) (hb2.set2 true) (Nat.le_trans (settle_sz e _) HZ.out) (grow_same (grow_drew _ g2) (grow_set w2 ⟨g, 2, none⟩ (.bool true)))))
        clear hb2 g2
        go_wp2
        go_ret
        exact ⟨by rw [HR.out]; rfl, by rw [HC.out]; exact HE.out⟩
  · have HC : Hid (syncD d s = stepOfD d s) := by show _ = _; unfold syncD; rw [if_neg hr]
    have e1 : (stepOfC d s == 0) = false := by simpa using hr
    clear hr
    go_enter Tryz.func33, Tryz.ntmps33
    go_wp2_with fail
    refine SO.out.mono ?_
    rintro e w1 ⟨rfl, hE⟩
    go_wp2
    go_ret
    exact ⟨rfl, by rw [HC.out]; exact hE⟩
end Go.Proofs.YtphljjgjpkdpmaaGreatDoor
/- Stage 5: Append. -/
namespace Go.Proofs.YtphljjgjpkdpmaaGreatDoor
open Go.RowKit
set_option linter.unusedVariables false
def noE : Ent := ⟨⟨#[]⟩, ⟨#[]⟩, false⟩
def entOf (d : Dk) (s : ByteArray) : Ent := (d.F s).getD noE
def appC (d : Dk) (s x : ByteArray) : Int := if refC d s ≠ 0 then refC d s else if 1048576 < x.size + (entOf d s).sz then 52 else stepC d
def appD (d : Dk) (s x : ByteArray) : Dk :=
  if refC d s ≠ 0 then d else if 1048576 < x.size + (entOf d s).sz then d else if stepC d ≠ 0 then stepD d else { stepD d with F := putE d.F s (some ⟨(entOf d s).l, (entOf d s).w ++ x, (entOf d s).s⟩) }
theorem noE_fb (w : World) : FB (w.alloc (.cells #[.string ⟨#[]⟩, .string ⟨#[]⟩, .bool false] 89)) w.heap.size noE := Blk.new w 89 [.string ⟨#[]⟩, .string ⟨#[]⟩, .bool false]
theorem putE_twice (F : ByteArray → Option Ent) (s : ByteArray) (a c : Option Ent) : putE (putE F s a) s c = putE F s c := by
  funext x
  unfold putE
  split <;> rfl
set_option maxRecDepth 100000 in
set_option maxHeartbeats 4000000 in
theorem Append_any (b mb n : Nat) (G : ByteArray → Option Nat) (d : Dk) (s x : ByteArray) (w : World) (h : DAt w b mb n G d) (hs : s.size ≤ maxLen) (hx : x.size ≤ maxLen) (hst : d.steps < 1000000) (hn : n < 1000000) :
    Calls Tryz.prog 32 #[.pointer (some ⟨b, 0, none⟩), .string s, .string x] w fun e w' => e = .returned (.int .i64 (appC d s x)) ∧ ∃ n', n' ≤ n + 1 ∧ DEnd b mb G n' (appD d s x) w w' := by
  have c0 := h.c0
  have hlk := h.map.look s hs
  have H := Lib.hid h
  have hmn := mapNil mb
  have RF := Lib.hid (refuses_any b mb n G d s w h hs)
  have HST := Lib.hid hst
  have HN := Lib.hid hn
  have HS := Lib.hid hs
  have hxI : (x.size : Int) ≤ 9223372036854775807 := by unfold maxLen at hx; omega
  clear hst hn hs hx
  by_cases hr : refC d s = 0
  · have HR := Lib.hid hr
    clear hr
    obtain ⟨e, he⟩ : ∃ e, e = entOf d s := ⟨_, rfl⟩
    have HEE := Lib.hid he
    have hfile : (∃ g, G s = some g) ∨ G s = none := by cases G s <;> simp
    rcases hfile with ⟨g, hg⟩ | hg
    · obtain ⟨e', he', hb, hz⟩ := h.ent s g hg
      have e2 : e = e' := by rw [he]; unfold entOf; rw [he']; rfl
      subst e2
      have HGB := Lib.hid (h.far s g hg)
      have HG := Lib.hid hg
      rw [hg] at hlk
      unfold Pp at hlk
      have HZ := Lib.hid hz
      have HB := Lib.hid hb
      have GW := Lib.hid (grow_refl w none)
      have hzI : (e.sz : Int) ≤ 1048576 := by omega
      have hz0 : (0 : Int) ≤ (e.sz : Int) := by omega
      clear h hg he he' hb hz
      by_cases hbig : 1048576 < x.size + e.sz
      · have HC : Hid (appC d s x = 52 ∧ appD d s x = d) := by
          refine ⟨?_, ?_⟩
          · unfold appC; rw [HR.out, if_neg (fun y => y rfl), ← HEE.out, if_pos hbig]
          · unfold appD; rw [HR.out, if_neg (fun y => y rfl), ← HEE.out, if_pos hbig]
        have d1 : (1048576 : Int) - (e.sz : Int) < (x.size : Int) := by omega
        clear hbig
        go_enter Tryz.func32, Tryz.ntmps32
        go_wp2_with fail
        refine RF.out.mono ?_
        rintro e1 w1 ⟨rfl, rfl⟩
        rw [HR.out]
        go_wp2_with fail
        refine (dSize_any g e _ HB.out HZ.out).mono ?_
        rintro e1 w1 ⟨rfl, g1⟩
        go_wp2
        go_ret
        exact ⟨by rw [HC.out.1]; rfl, n, by omega, by rw [HC.out.2]; exact DEnd.same H.out (grow_none GW.out g1)⟩
      · have d1 : (x.size : Int) ≤ (1048576 : Int) - (e.sz : Int) := by omega
        have hxs : e.sz + x.size ≤ 1048576 := by omega
        have HXS := Lib.hid hxs
        have HNB : Hid (¬ 1048576 < x.size + e.sz) := hbig
        clear hbig hxs
        by_cases hsc : stepC d = 0
        · have HC : Hid (appC d s x = 0 ∧ appD d s x = { stepD d with F := putE (stepD d).F s (some ⟨e.l, e.w ++ x, e.s⟩) }) := by
            refine ⟨?_, ?_⟩
            · unfold appC; rw [HR.out, if_neg (fun y => y rfl), ← HEE.out, if_neg HNB.out, hsc]
            · unfold appD; rw [HR.out, if_neg (fun y => y rfl), ← HEE.out, if_neg HNB.out, hsc, if_neg (fun y => y rfl), stepD_F]
          have HSC := Lib.hid hsc
          clear hsc
          go_enter Tryz.func32, Tryz.ntmps32
          go_wp2_with fail
          refine RF.out.mono ?_
          rintro e1 w1 ⟨rfl, rfl⟩
          rw [HR.out]
          go_wp2_with fail
          refine (dSize_any g e _ HB.out HZ.out).mono ?_
          rintro e1 w1 ⟨rfl, g1⟩
          have G1 := Lib.hid (grow_none GW.out g1)
          have B1 := Lib.hid (Blk.keep HB.out g1 : FB w1 g e)
          have H1 := Lib.hid (H.out.keep G1.out)
          clear g1
          go_wp2_with fail
          refine (step_any b mb n G d _ H1.out HST.out).mono ?_
          rintro e1 w2 ⟨rfl, h2, g2⟩
          rw [HSC.out]
          have H2 := Lib.hid h2
          have B2 := Lib.hid (Blk.kept B1.out g2 (fun y => HGB.out.1 (by injection y)) : FB w2 g e)
          have C2 := Lib.hid ((Chg.of_none G1.out (S := DS b mb G)).trans (Chg.of_row g2 (S := DS b mb G) (fun k hk _ => .inl (by injection hk with hk; exact hk.symm))) (fun _ _ h => h))
          clear h2 g2
          go_wp2_with fail
          refine (put_any g e x _ B2.out HXS.out).mono ?_
          rintro e1 w3 ⟨rfl, b3, g3⟩
          have c3 := (H2.out.blk.kept g3 (fun y => HGB.out.1 (by injection y with y; exact y.symm))).cell 0 (by simp)
          have M3 := Lib.hid (H2.out.map.kept g3 (fun y => HGB.out.2 (by injection y with y; exact y.symm)))
          have B3 := Lib.hid b3
          have G3 := Lib.hid g3
          clear b3 g3
          go_wp2_with (refine wpList_putG _ rfl _ _ _ rfl mb n G rfl M3.out (by have := HN.out; show n < 2^63-1; omega) s g rfl rfl HS.out ?_)
          intro w4 m4 g4
          have HE : Hid (DEnd b mb G (n + 1) (appD d s x) w w4) := by
            show DEnd _ _ _ _ _ _ _
            rw [HC.out.2]
            have hd3 := H2.out.file s g HG.out ⟨e.l, e.w ++ x, e.s⟩ B3.out (by have := HXS.out; unfold Ent.sz at *; simp only [ByteArray.size_append]; omega) G3.out
            have hk := DAt.mapPut hd3 s g ⟨e.l, e.w ++ x, e.s⟩ B3.out (by have := HXS.out; unfold Ent.sz at *; simp only [ByteArray.size_append]; omega) (.inl ⟨HG.out, by show putE _ _ _ _ = _; unfold putE; rw [if_pos rfl]⟩) m4 g4 (by have := HN.out; omega)
            simp only [putE_twice] at hk
            refine ⟨_, hk, (C2.out.trans (Chg.of_row G3.out (S := DS b mb G) (fun k hk _ => by injection hk with hk; subst hk; exact .inr (.inr ⟨s, HG.out⟩))) (fun _ _ h => h)).trans (Chg.of_row g4 (S := DS b mb G) (fun k hk _ => by injection hk with hk; exact .inr (.inl hk.symm))) (fun _ _ h => h), fun t y hy => ?_⟩
            rw [putG_same HG.out] at hy
            exact .inl ⟨t, hy⟩
          clear m4 g4
          go_wp2
          go_ret
          exact ⟨by rw [HC.out.1]; rfl, n + 1, Nat.le_refl _, HE.out⟩
        · have HC : Hid (appC d s x = stepC d ∧ appD d s x = stepD d) := by
            refine ⟨?_, ?_⟩
            · unfold appC; rw [HR.out, if_neg (fun y => y rfl), ← HEE.out, if_neg HNB.out]
            · unfold appD; rw [HR.out, if_neg (fun y => y rfl), ← HEE.out, if_neg HNB.out, if_pos hsc]
          have e3 : (stepC d != 0) = true := by simpa using hsc
          clear hsc
          go_enter Tryz.func32, Tryz.ntmps32
          go_wp2_with fail
          refine RF.out.mono ?_
          rintro e1 w1 ⟨rfl, rfl⟩
          rw [HR.out]
          go_wp2_with fail
          refine (dSize_any g e _ HB.out HZ.out).mono ?_
          rintro e1 w1 ⟨rfl, g1⟩
          have G1 := Lib.hid (grow_none GW.out g1)
          have H1 := Lib.hid (H.out.keep G1.out)
          clear g1
          go_wp2_with fail
          refine (step_any b mb n G d _ H1.out HST.out).mono ?_
          rintro e1 w2 ⟨rfl, h2, g2⟩
          have HE := Lib.hid (DEnd.front G1.out (DEnd.of_b h2 g2))
          clear h2 g2
          go_wp2
          go_ret
          exact ⟨by rw [HC.out.1]; rfl, n, by omega, by rw [HC.out.2]; exact HE.out⟩
    · have e2 : e = noE := by rw [he]; unfold entOf; rw [h.non s hg]; rfl
      subst e2
      have HG := Lib.hid hg
      rw [hg] at hlk
      unfold Pp at hlk
      have HLV := Lib.hid h.live
      have HGB : Hid (w.heap.size ≠ b ∧ w.heap.size ≠ mb) := ⟨by have := h.lt; omega, by have := h.map.lt; omega⟩
      have HB := Lib.hid (noE_fb w)
      have HZ : Hid (noE.sz ≤ 1048576) := by show _ ≤ _; decide
      have GW := Lib.hid (World.grownBy_alloc w (.cells #[.string ⟨#[]⟩, .string ⟨#[]⟩, .bool false] 89) none)
      have hb := h.lt
      have hzI : (noE.sz : Int) ≤ 1048576 := by decide
      have hz0 : (0 : Int) ≤ (noE.sz : Int) := by decide
      obtain ⟨e, he2⟩ : ∃ e, e = noE := ⟨_, rfl⟩
      rw [← he2] at HEE HB HZ hzI hz0
      clear h hg he he2
      by_cases hbig : 1048576 < x.size + e.sz
      · have HC : Hid (appC d s x = 52 ∧ appD d s x = d) := by
          refine ⟨?_, ?_⟩
          · unfold appC; rw [HR.out, if_neg (fun y => y rfl), ← HEE.out, if_pos hbig]
          · unfold appD; rw [HR.out, if_neg (fun y => y rfl), ← HEE.out, if_pos hbig]
        have d1 : (1048576 : Int) - (e.sz : Int) < (x.size : Int) := by omega
        clear hbig
        go_enter Tryz.func32, Tryz.ntmps32
        go_wp2_with fail
        refine RF.out.mono ?_
        rintro e1 w1 ⟨rfl, rfl⟩
        rw [HR.out]
        go_wp2_with fail
        refine (dSize_any w.heap.size e _ HB.out HZ.out).mono ?_
        rintro e1 w1 ⟨rfl, g1⟩
        go_wp2
        go_ret
        exact ⟨by rw [HC.out.1]; rfl, n, by omega, by rw [HC.out.2]; exact DEnd.same H.out (grow_none GW.out g1)⟩
      · have d1 : (x.size : Int) ≤ (1048576 : Int) - (e.sz : Int) := by omega
        have hxs : e.sz + x.size ≤ 1048576 := by omega
        have HXS := Lib.hid hxs
        have HNB : Hid (¬ 1048576 < x.size + e.sz) := hbig
        clear hbig hxs
        by_cases hsc : stepC d = 0
        · have HC : Hid (appC d s x = 0 ∧ appD d s x = { stepD d with F := putE (stepD d).F s (some ⟨e.l, e.w ++ x, e.s⟩) }) := by
            refine ⟨?_, ?_⟩
            · unfold appC; rw [HR.out, if_neg (fun y => y rfl), ← HEE.out, if_neg HNB.out, hsc]
            · unfold appD; rw [HR.out, if_neg (fun y => y rfl), ← HEE.out, if_neg HNB.out, hsc, if_neg (fun y => y rfl), stepD_F]
          have HSC := Lib.hid hsc
          clear hsc
          go_enter Tryz.func32, Tryz.ntmps32
          go_wp2_with fail
          refine RF.out.mono ?_
          rintro e1 w1 ⟨rfl, rfl⟩
          rw [HR.out]
          go_wp2_with fail
          refine (dSize_any w.heap.size e _ HB.out HZ.out).mono ?_
          rintro e1 w1 ⟨rfl, g1⟩
          have G1 := Lib.hid (grow_none GW.out g1)
          have B1 := Lib.hid (Blk.keep HB.out g1 : FB w1 w.heap.size e)
          have H1 := Lib.hid (H.out.keep G1.out)
          clear g1
          go_wp2_with fail
          refine (step_any b mb n G d _ H1.out HST.out).mono ?_
          rintro e1 w2 ⟨rfl, h2, g2⟩
          rw [HSC.out]
          have H2 := Lib.hid h2
          have B2 := Lib.hid (Blk.kept B1.out g2 (fun y => HGB.out.1 (by injection y)) : FB w2 w.heap.size e)
          have C2 := Lib.hid ((Chg.of_none G1.out (S := DS b mb G)).trans (Chg.of_row g2 (S := DS b mb G) (fun k hk _ => .inl (by injection hk with hk; exact hk.symm))) (fun _ _ h => h))
          clear h2 g2
          go_wp2_with fail
          refine (put_any w.heap.size e x _ B2.out HXS.out).mono ?_
          rintro e1 w3 ⟨rfl, b3, g3⟩
          have c3 := (H2.out.blk.kept g3 (fun y => HGB.out.1 (by injection y with y; exact y.symm))).cell 0 (by simp)
          have M3 := Lib.hid (H2.out.map.kept g3 (fun y => HGB.out.2 (by injection y with y; exact y.symm)))
          have B3 := Lib.hid b3
          have G3 := Lib.hid g3
          clear b3 g3
          go_wp2_with (refine wpList_putG _ rfl _ _ _ rfl mb n G rfl M3.out (by have := HN.out; show n < 2^63-1; omega) s w.heap.size rfl rfl HS.out ?_)
          intro w4 m4 g4
          have HE : Hid (DEnd b mb G (n + 1) (appD d s x) w w4) := by
            show DEnd _ _ _ _ _ _ _
            rw [HC.out.2]
            have hnd : ¬ DS b mb G w.heap.size := fun y => by have := HLV.out _ y; omega
            have hd3 := H2.out.chg (Chg.of_row G3.out (S := fun i => i = w.heap.size) (fun k hk _ => by injection hk with hk; exact hk.symm)) (fun i hi y => hnd (by rw [← y]; exact hi))
            have hk := DAt.mapPut hd3 s w.heap.size ⟨e.l, e.w ++ x, e.s⟩ B3.out (by have := HXS.out; unfold Ent.sz at *; simp only [ByteArray.size_append]; omega) (.inr hnd) m4 g4 (by have := HN.out; omega)
            refine ⟨_, hk, (C2.out.trans (Chg.of_row G3.out (S := fun i => i = w.heap.size) (fun k hk _ => by injection hk with hk; exact hk.symm)) (fun i hi y => by omega)).trans (Chg.of_row g4 (S := DS b mb G) (fun k hk _ => by injection hk with hk; exact .inr (.inl hk.symm))) (fun _ _ h => h), fun t y hy => ?_⟩
            unfold putG at hy
            by_cases ht : t = s
            · rw [if_pos ht] at hy; injection hy with hy; exact .inr (by omega)
            · rw [if_neg ht] at hy; exact .inl ⟨t, hy⟩
          clear m4 g4
          go_wp2
          go_ret
          exact ⟨by rw [HC.out.1]; rfl, n + 1, Nat.le_refl _, HE.out⟩
        · have HC : Hid (appC d s x = stepC d ∧ appD d s x = stepD d) := by
            refine ⟨?_, ?_⟩
            · unfold appC; rw [HR.out, if_neg (fun y => y rfl), ← HEE.out, if_neg HNB.out]
            · unfold appD; rw [HR.out, if_neg (fun y => y rfl), ← HEE.out, if_neg HNB.out, if_pos hsc]
          have e3 : (stepC d != 0) = true := by simpa using hsc
          clear hsc
          go_enter Tryz.func32, Tryz.ntmps32
          go_wp2_with fail
          refine RF.out.mono ?_
          rintro e1 w1 ⟨rfl, rfl⟩
          rw [HR.out]
          go_wp2_with fail
          refine (dSize_any w.heap.size e _ HB.out HZ.out).mono ?_
          rintro e1 w1 ⟨rfl, g1⟩
          have G1 := Lib.hid (grow_none GW.out g1)
          have H1 := Lib.hid (H.out.keep G1.out)
          clear g1
          go_wp2_with fail
          refine (step_any b mb n G d _ H1.out HST.out).mono ?_
          rintro e1 w2 ⟨rfl, h2, g2⟩
          have HE := Lib.hid (DEnd.front G1.out (DEnd.of_b h2 g2))
          clear h2 g2
          go_wp2
          go_ret
          exact ⟨by rw [HC.out.1]; rfl, n, by omega, by rw [HC.out.2]; exact HE.out⟩
  · have HC : Hid (appC d s x = refC d s ∧ appD d s x = d) := ⟨by unfold appC; rw [if_pos hr], by unfold appD; rw [if_pos hr]⟩
    have e1 : (refC d s != 0) = true := by simpa using hr
    clear hr h hlk
    go_enter Tryz.func32, Tryz.ntmps32
    go_wp2_with fail
    refine RF.out.mono ?_
    rintro e w1 ⟨rfl, rfl⟩
    go_wp2
    go_ret
    exact ⟨by rw [HC.out.1]; rfl, n, by omega, by rw [HC.out.2]; exact DEnd.same H.out (grow_refl _ _)⟩
end Go.Proofs.YtphljjgjpkdpmaaGreatDoor
