/- Several texts in one: B0 B1 CrA. -/
import Derived.WalkKit
import Derived.Handy
import Derived.Lib.Hide
import Derived.BigQuiet
import Derived.Deep.DeepCutAuto
import Derived.Deep.RegionHeld3
import Derived.Deep.RegionWith
import Derived.Deep.RegionLaw
import Derived.Deep.DeepFit
import Derived.Deep.LoopGhost
import Derived.WalkSpells
import Derived.WalkLawsBesides
import Derived.Lib.AppendStr
import Derived.Deep.QuietTactic
/- Small laws on buffers that grow, used by all walks of this seat. -/
namespace Go.Proofs.YtphljjgjpkdpmaaGreatDoor
open Go.RowKit
set_option linter.unusedVariables false
/-- The slice value lies where the elder one lay, or in a new block. -/
def Moved (w : World) (v v' : Value) : Prop := v'.ownBlock = v.ownBlock ∨ ∃ k, w.heap.size ≤ k ∧ v'.ownBlock = some k
theorem Moved.refl (w : World) (v : Value) : Moved w v v := .inl rfl
theorem Moved.trans {w w1 : World} {v v1 v2 : Value} (h : Moved w v v1) (hs : w.heap.size ≤ w1.heap.size) (k : Moved w1 v1 v2) : Moved w v v2 := by
  rcases k with k | ⟨j, hj, k⟩
  · rw [Moved, k]; exact h
  · exact .inr ⟨j, Nat.le_trans hs hj, k⟩
theorem grow_trans {w w1 w2 : World} {v v1 : Value} (g : w.grownBy w1 v.ownBlock) (m : Moved w v v1) (k : w1.grownBy w2 v1.ownBlock) : w.grownBy w2 v.ownBlock := by
  refine ⟨k.os.trans g.os, k.tape.trans g.tape, k.output.trans g.output, Nat.le_trans g.size k.size, fun i hi hn => ?_⟩
  rw [k.block i (Nat.lt_of_lt_of_le hi g.size) ?_, g.block i hi hn]
  rcases m with m | ⟨j, hj, m⟩
  · rw [m]; exact hn
  · rw [m]; intro e; injection e with e; omega
theorem grow_none {w w1 w2 : World} {r : Option Nat} (g : w.grownBy w1 none) (k : w1.grownBy w2 r) : w.grownBy w2 r :=
  ⟨k.os.trans g.os, k.tape.trans g.tape, k.output.trans g.output, Nat.le_trans g.size k.size, fun i hi hn => by
    rw [k.block i (Nat.lt_of_lt_of_le hi g.size) hn, g.block i hi (by simp)]⟩
theorem grow_then_none {w w1 w2 : World} {r : Option Nat} (g : w.grownBy w1 r) (k : w1.grownBy w2 none) : w.grownBy w2 r :=
  ⟨k.os.trans g.os, k.tape.trans g.tape, k.output.trans g.output, Nat.le_trans g.size k.size, fun i hi hn => by
    rw [k.block i (Nat.lt_of_lt_of_le hi g.size) (by simp), g.block i hi hn]⟩
theorem grow_refl (w : World) (r : Option Nat) : w.grownBy w r := ⟨rfl, rfl, rfl, Nat.le_refl _, fun _ _ _ => rfl⟩
theorem grow_to {w w' : World} {r : Option Nat} (g : w.grownBy w' none) : w.grownBy w' r := ⟨g.os, g.tape, g.output, g.size, fun i hi _ => g.block i hi (by simp)⟩
theorem below_of_none {w w' : World} (g : w.grownBy w' none) : Below w.heap.size w w' := ⟨g.os, g.tape, g.output, g.size, fun k hk => g.block k hk (by simp)⟩
theorem none_of_below {w w' : World} (g : Below w.heap.size w w') : w.grownBy w' none := ⟨g.os, g.tape, g.output, g.size, fun k hk _ => g.block k hk⟩
theorem grow_new {w w1 w2 : World} {j : Nat} (g : w.grownBy w1 none) (hj : w.heap.size ≤ j) (k : w1.grownBy w2 (some j)) : w.grownBy w2 none :=
  ⟨k.os.trans g.os, k.tape.trans g.tape, k.output.trans g.output, Nat.le_trans g.size k.size, fun i hi hn => by
    rw [k.block i (Nat.lt_of_lt_of_le hi g.size) (by intro e; injection e with e; omega), g.block i hi hn]⟩
theorem Moved_alloc {w : World} {o : Obj} {v v' : Value} (h : Moved (w.alloc o) v v') : Moved w v v' := by
  rcases h with h | ⟨k, hk, h⟩
  · exact .inl h
  · exact .inr ⟨k, by simp at hk; omega, h⟩
theorem cells_new1 (w : World) (x : Value) (t : TypeId) : ∀ j u, [x][j]? = some u → (w.alloc (.cells #[x] t)).cell? ((⟨w.heap.size, 0, none⟩ : Addr).add j) = some u := by
  intro j u h
  rcases j with _ | j
  · simp at h; subst h
    simp [Addr.add, World.cell?_alloc_at]
  · simp at h
theorem one_u8 (x : Int) : ∀ u ∈ [Value.int .u8 x], u.oneCell' = true := by
  intro u hu; simp at hu; subst hu; rfl
/-- A byte's cell. -/
def c8 (b : UInt8) : Value := .int .u8 (b.toNat : Int)
theorem one_c8 (l : List UInt8) : ∀ u ∈ l.map c8, u.oneCell' = true := by
  intro u hu
  obtain ⟨b, _, rfl⟩ := List.mem_map.1 hu
  rfl
theorem push_fold (l : List UInt8) : ∀ s : ByteArray, (l.map (fun b : UInt8 => ((b.toNat : Nat) : Int))).foldl (fun r n => r.push (UInt8.ofNat n.toNat)) s = s ++ ⟨l.toArray⟩ := by
  induction l with
  | nil => intro s; apply ByteArray.ext; simp
  | cons b l ih =>
    intro s
    rw [List.map_cons, List.foldl_cons, ih]
    apply ByteArray.ext
    simp [ByteArray.push]
theorem run_str_buf {P : Program} (w : World) {src dst e : TypeId} (hs : P.underlying src = some (.slice e)) (he : P.underlying e = some (.int .u8)) (hd : P.underlying dst = some .string)
    {v : Value} {n : Nat} {l : List UInt8} (ho : w.ownsRow 0 e 1 v n (l.map c8)) : (convert src dst v).run P w = .ok (.string ⟨l.toArray⟩) w := by
  rcases ho.2 with ⟨rfl, hn⟩ | ⟨g, cap, cur, rfl, _, hh, hnc, hcm, hcs, htake⟩
  · have : l = [] := by have := ho.1; rw [hn] at this; simpa using this
    subst this
    rw [run_convert_bytes_string w src dst e _ _ _ hs he hd]
    simp [Conv.bytesToString, Sem.run_pure]
    rfl
  · rw [run_convert_bytes_string w src dst e _ _ _ hs he hd, run_bytesToString w ⟨g, 0, none⟩ n cap (l.map (fun b : UInt8 => ((b.toNat : Nat) : Int)))]
    · rw [push_fold]; congr 2
    · have hc := ho.cells (g := g) rfl
      have hl := ho.1
      have hln : (l.map c8).length = n := by simpa using hl
      have := run_loadCells_list (P := P) w ⟨g, 0, none⟩ (l.map c8) hc
      rw [hln] at this
      rw [this]
      simp [Function.comp_def, c8]
section
variable {P : Program} (w : World)
theorem run_append_buf (t ty e : TypeId) (i : TypeInfo) (z : Value) (size bytes : Nat) (ht : P.underlying t = some (.slice e)) (hi : P.info? e = some i) (hz : i.zero = some z)
    (hsize : i.size = size) (hby : i.bytes = bytes) (hzs : z.cells.size = size) (hsz : 0 < size)
    (v : Value) (n : Nat) (xs : List Value) (hown : w.ownsRow 0 e size v n xs)
    (a : Addr) (m c : Nat) (news : List Value) (hl : news.length = m * size) (hnews : ∀ j u, news[j]? = some u → w.cell? (a.add j) = some u) (h1 : ∀ u ∈ news, u.oneCell' = true)
    (h63 : n + m ≤ maxLen) (hbytes : (n + m) * bytes ≤ 140737488355328) :
    ∃ v' w', (Builtin.append_ #[t, t] ty #[v, .slice (some a) m c]).run P w = .ok v' w' ∧ w'.ownsRow 0 e size v' (n + m) (xs ++ news) ∧ w.grownBy w' v.ownBlock ∧ Moved w v v' := by
  obtain ⟨v', w', hr, ho, hg, _⟩ := run_append_own (P := P) w 0 t ty e i z size bytes ht hi hz hsize hby hzs hsz v n xs hown a m c news hl hnews h1 h63 hbytes (Nat.zero_le _)
  refine ⟨v', w', hr, ho, hg, ?_⟩
  rcases hown.2 with ⟨rfl, rfl⟩ | ⟨g, cap, cur, rfl, _, hh, hnc, hcm, hcs, htake⟩
  · have hx : xs = [] := List.eq_nil_of_length_eq_zero (by simpa using hown.1)
    subst hx
    obtain ⟨v2, w2, hr2, ho2, _, _⟩ := run_append_own (P := P) w w.heap.size t ty e i z size bytes ht hi hz hsize hby hzs hsz (.slice none 0 0) 0 [] (World.ownsRow_nil _ _ _ _) a m c news hl hnews h1 h63 hbytes (Nat.le_refl _)
    rw [hr] at hr2
    injection hr2 with e1 e2
    subst e1 e2
    rcases hv : v'.ownBlock with _ | k
    · exact .inl (by rw [hv]; rfl)
    · exact .inr ⟨k, (ho2.lt k hv).1, hv⟩
  · subst hsize
    by_cases hroom : n + m ≤ cap
    · have hfit : n * i.size + news.length ≤ cur.size := by rw [hl, hcs, ← Nat.add_mul]; exact Nat.mul_le_mul_right _ hroom
      have hr2 := run_append_room (P := P) w t ty e i ht hi g n cap cur hh a m c news hl hnews h1 hroom hfit
      rw [hr] at hr2
      injection hr2 with e1 e2
      subst e1
      exact .inl rfl
    · have holds : ∀ j u, xs[j]? = some u → w.cell? ((⟨g, 0, none⟩ : Addr).add j) = some u := hown.cells (g := g) rfl
      have hmx : maxLen = 9223372036854775807 := by decide
      have hr2 := run_append_grow (P := P) w t ty e i z ht hi hz ⟨g, 0, none⟩ n cap xs hown.1 holds a m c news hl hnews (by omega) (by rw [hmx] at h63; omega) (growslice_fits (by omega) (by rw [hby]; exact hbytes))
      rw [hr] at hr2
      injection hr2 with e1 e2
      subst e1
      exact .inr ⟨_, Nat.le_refl _, rfl⟩
theorem wpList_append_buf {ops : Array Oper} {rest : List Oper} {o : Oper} {a : Act} {Q : Exit → Act → World → Prop} (hgd : o.guard = none) (s x : Operand) (t : TypeId)
    (ho : o.op = .call { callee := .builtin .append, args := #[s, x], argTypes := #[t, t] })
    (e : TypeId) (i : TypeInfo) (z : Value) (size bytes : Nat) (ht : P.underlying t = some (.slice e)) (hi : P.info? e = some i) (hz : i.zero = some z)
    (hsize : i.size = size) (hby : i.bytes = bytes) (hzs : z.cells.size = size) (hsz : 0 < size)
    (v : Value) (n : Nat) (xs : List Value) (hs : a.eval s = v) (hown : w.ownsRow 0 e size v n xs)
    (ad : Addr) (m c : Nat) (news : List Value) (hx : a.eval x = .slice (some ad) m c) (hl : news.length = m * size) (hnews : ∀ j u, news[j]? = some u → w.cell? (ad.add j) = some u) (h1 : ∀ u ∈ news, u.oneCell' = true)
    (h63 : n + m ≤ maxLen) (hbytes : (n + m) * bytes ≤ 140737488355328)
    (h : ∀ v' w', w'.ownsRow 0 e size v' (n + m) (xs ++ news) → w.grownBy w' v.ownBlock → Moved w v v' → wpList P ops Q rest (a.put o.dst v') w') : wpList P ops Q (o :: rest) a w := by
  obtain ⟨v', w', hr, h2, h3, h4⟩ := run_append_buf (P := P) w t o.type e i z size bytes ht hi hz hsize hby hzs hsz v n xs hown ad m c news hl hnews h1 h63 hbytes
  refine wpList_plain hgd fun K hK => ?_
  unfold Oper.wp execOp
  simp only [ho, resolve, invoke, builtin, Sem.run_bind, Sem.run_pure, Result.andThen_ok, List.map_toArray, List.map_cons, List.map_nil, hs, hx, hr]
  exact hK _ _ (h v' w' h2 h3 h4)
end
theorem grow_set (w : World) (a : Addr) (v : Value) : w.grownBy (w.setCell a v) (some a.block) :=
  ⟨rfl, rfl, rfl, by simp [World.setCell], fun k hk hn => Below.heap_setCell _ _ _ _ (fun e => hn (by rw [e]))⟩
theorem grow_same {w w1 w2 : World} {r : Option Nat} (g : w.grownBy w1 r) (k : w1.grownBy w2 r) : w.grownBy w2 r :=
  ⟨k.os.trans g.os, k.tape.trans g.tape, k.output.trans g.output, Nat.le_trans g.size k.size, fun i hi hn => by
    rw [k.block i (Nat.lt_of_lt_of_le hi g.size) hn, g.block i hi hn]⟩
theorem grow_alloc (w : World) (o : Obj) {w' : World} {r : Option Nat} (k : (w.alloc o).grownBy w' r) : w.grownBy w' r := grow_none (World.grownBy_alloc _ _ _) k
theorem grow_drew (w : World) {w' : World} {r : Option Nat} (k : w.drew.grownBy w' r) : w.grownBy w' r := ⟨k.os, k.tape, k.output, k.size, k.block⟩
theorem grow_drawn {w w' : World} {r : Option Nat} (k : w.grownBy w' r) : w.grownBy w'.drew r := ⟨k.os, k.tape, k.output, k.size, k.block⟩
theorem grow_drawnN {w w' : World} {r : Option Nat} (n : Nat) (k : w.grownBy w' r) : w.grownBy (w'.drewN n) r := ⟨k.os, k.tape, k.output, k.size, k.block⟩
theorem grow_setnew {w w1 : World} {r : Option Nat} (g : w.grownBy w1 r) {a : Addr} (ha : w.heap.size ≤ a.block) (v : Value) : w.grownBy (w1.setCell a v) r :=
  ⟨g.os, g.tape, g.output, by simpa [World.setCell] using g.size, fun k hk hn => by rw [Below.heap_setCell _ _ _ _ (by omega), g.block k hk hn]⟩
theorem grow_fr {w w' : World} {r : Option Nat} (g : w.grownBy w' r) {a : Addr} {f : Bool} (h : w.frozen? a = f) (hl : a.block < w.heap.size) (hn : some a.block ≠ r) : w'.frozen? a = f :=
  (World.frozen?_of_block (g.block a.block hl hn)).trans h
theorem two_cell1 (w : World) (x y : Value) (s t : TypeId) : ((w.alloc (.cells #[x] s)).alloc (.cells #[y] t)).cell? ⟨w.heap.size + 1, 0, none⟩ = some y := by
  rw [World.cell?_alloc_at _ _ _ _ (by simp)]; rfl
theorem two_cell0 (w : World) (x y : Value) (s t : TypeId) : ((w.alloc (.cells #[x] s)).alloc (.cells #[y] t)).cell? ⟨w.heap.size, 0, none⟩ = some x := by
  rw [World.cell?_alloc_past _ _ _ (by simp), World.cell?_alloc_at _ _ _ _ rfl]; rfl
theorem two_fr1 (w : World) (x y : Value) (s t : TypeId) : ((w.alloc (.cells #[x] s)).alloc (.cells #[y] t)).frozen? ⟨w.heap.size + 1, 0, none⟩ = false := World.frozen?_alloc_at _ _ _ _ (by simp)
/-- The slice value, if it lies anywhere, lies in a block that w has not. -/
def NewBlk (w : World) (v : Value) : Prop := ∀ k, v.ownBlock = some k → w.heap.size ≤ k
theorem NewBlk.moved {w w1 : World} {v v' : Value} (h : NewBlk w v) (hs : w.heap.size ≤ w1.heap.size) (m : Moved w1 v v') : NewBlk w v' := by
  intro k hk
  rcases m with m | ⟨j, hj, m⟩
  · exact h k (by rw [← m]; exact hk)
  · rw [m] at hk; injection hk with hk; omega
theorem grow_newblk {w w1 w2 : World} {v : Value} (g : w.grownBy w1 none) (h : NewBlk w v) (k : w1.grownBy w2 v.ownBlock) : w.grownBy w2 none := by
  refine ⟨k.os.trans g.os, k.tape.trans g.tape, k.output.trans g.output, Nat.le_trans g.size k.size, fun i hi hn => ?_⟩
  rw [k.block i (Nat.lt_of_lt_of_le hi g.size) ?_, g.block i hi hn]
  intro e
  have := h i e.symm
  omega
theorem newblk_nil (w : World) : NewBlk w (.slice none 0 0) := by intro k h; simp [Value.ownBlock] at h
theorem newblk_at (w : World) (j l c : Nat) (h : w.heap.size ≤ j) (o : Nat) : NewBlk w (.slice (some ⟨j, o, none⟩) l c) := by
  intro k hk; simp [Value.ownBlock] at hk; omega
/-- The slice value reads as the list of cells. -/
def RowAt (w : World) (v : Value) (xs : List Value) : Prop :=
  ∃ a cap, v = .slice a xs.length cap ∧ (xs = [] ∨ ∃ b off, a = some ⟨b, off, none⟩ ∧ b < w.heap.size ∧ ∀ j, j < xs.length → w.cell? ⟨b, off + j, none⟩ = some (xs.getD j undef))
theorem RowAt.kept {w w' : World} {v : Value} {xs : List Value} (h : RowAt w v xs) (g : w.grownBy w' none) : RowAt w' v xs := by
  obtain ⟨a, cap, rfl, h⟩ := h
  refine ⟨a, cap, rfl, ?_⟩
  rcases h with h | ⟨b, off, rfl, hb, hc⟩
  · exact .inl h
  · exact .inr ⟨b, off, rfl, Nat.lt_of_lt_of_le hb g.size, fun j hj => by rw [← hc j hj]; exact World.cell?_of_block (g.block b hb (by simp))⟩
theorem RowAt.of_own {w : World} {e : TypeId} {v : Value} {n : Nat} {xs : List Value} (h : w.ownsRow 0 e 1 v n xs) : RowAt w v xs := by
  have hl : xs.length = n := by have := h.1; omega
  rcases h.2 with ⟨rfl, rfl⟩ | ⟨g, cap, cur, rfl, _, hh, _⟩
  · have : xs = [] := List.eq_nil_of_length_eq_zero hl
    subst this
    exact ⟨none, 0, rfl, .inl rfl⟩
  · subst hl
    refine ⟨_, cap, rfl, .inr ⟨g, 0, rfl, (Array.getElem?_eq_some_iff.1 hh).1, fun j hj => ?_⟩⟩
    have := h.cells (g := g) rfl j (xs.getD j undef) (by simp [List.getD, List.getElem?_eq_getElem hj])
    have hadd : (⟨g, 0, none⟩ : Addr).add j = ⟨g, j, none⟩ := by unfold Addr.add; split <;> simp_all
    rw [hadd] at this
    rw [Nat.zero_add]
    exact this
/-- A slice that was just laid. -/
theorem RowAt.lit (w : World) (xs : List Value) (t : TypeId) (c n : Nat) (hn : xs.length = n) : RowAt (w.alloc (.cells xs.toArray t)) (.slice (some ⟨w.heap.size, 0, none⟩) n c) xs := by
  subst hn
  refine ⟨_, c, rfl, .inr ⟨w.heap.size, 0, rfl, by simp, fun j hj => ?_⟩⟩
  rw [World.cell?_alloc_at _ _ _ _ rfl]
  simp [List.getD, List.getElem?_eq_getElem hj]
section
variable {P : Program} (w : World)
theorem run_append_str (t u ty e : TypeId) (i : TypeInfo) (ht : P.underlying t = some (.slice e)) (hu : P.underlying u = some .string) (hi : P.info? e = some i) (hz : i.zero = some (.int .u8 0))
    (hsize : i.size = 1) (hby : i.bytes = 1)
    (v : Value) (n : Nat) (xs : List UInt8) (hown : w.ownsRow 0 e 1 v n (xs.map c8)) (s : ByteArray)
    (h63 : n + s.size ≤ maxLen) (hbytes : n + s.size ≤ 140737488355328) :
    ∃ v' w', (Builtin.append_ #[t, u] ty #[v, .string s]).run P w = .ok v' w' ∧ w'.ownsRow 0 e 1 v' (n + s.size) ((xs ++ s.data.toList).map c8) ∧ w.grownBy w' v.ownBlock ∧ Moved w v v' := by
  have es : Lib.strCells s = s.data.toList.map c8 := rfl
  obtain ⟨v', w', hr, ho, hg, _⟩ := Lib.run_append_own_string (P := P) w 0 t u ty e i ht hu hi hz hsize hby v n (xs.map c8) hown s h63 hbytes (Nat.zero_le _)
  rw [es, ← List.map_append] at ho
  refine ⟨v', w', hr, ho, hg, ?_⟩
  rcases hown.2 with ⟨rfl, rfl⟩ | ⟨g, cap, cur, rfl, _, hh, hnc, hcm, hcs, htake⟩
  · obtain ⟨v2, w2, hr2, ho2, _, _⟩ := Lib.run_append_own_string (P := P) w w.heap.size t u ty e i ht hu hi hz hsize hby (.slice none 0 0) 0 [] (World.ownsRow_nil _ _ _ _) s h63 hbytes (Nat.le_refl _)
    rw [hr] at hr2
    injection hr2 with e1 e2
    subst e1 e2
    rcases hv : v'.ownBlock with _ | k
    · exact .inl (by rw [hv]; rfl)
    · exact .inr ⟨k, (ho2.lt k hv).1, hv⟩
  · by_cases hroom : n + s.size ≤ cap
    · have hr2 := Lib.run_append_room_string (P := P) w t u ty e i ht hu hi hsize g n cap cur hh s hroom (by omega)
      rw [hr] at hr2
      injection hr2 with e1 e2
      subst e1
      exact .inl rfl
    · have hmx : maxLen = 9223372036854775807 := by decide
      have hr2 := Lib.run_append_grow_string (P := P) w t u ty e i (.int .u8 0) ht hu hi hz ⟨g, 0, none⟩ n cap (xs.map c8) (by rw [hsize]; exact hown.1) (hown.cells (g := g) rfl) s (by omega) (by rw [hmx] at h63; omega) (growslice_fits (by omega) (by rw [hby]; omega))
      rw [hr] at hr2
      injection hr2 with e1 e2
      subst e1
      exact .inr ⟨_, Nat.le_refl _, rfl⟩
theorem wpList_append_str {ops : Array Oper} {rest : List Oper} {o : Oper} {a : Act} {Q : Exit → Act → World → Prop} (hgd : o.guard = none) (sl x : Operand) (t u : TypeId)
    (ho : o.op = .call { callee := .builtin .append, args := #[sl, x], argTypes := #[t, u] })
    (e : TypeId) (i : TypeInfo) (ht : P.underlying t = some (.slice e)) (hu : P.underlying u = some .string) (hi : P.info? e = some i) (hz : i.zero = some (.int .u8 0))
    (hsize : i.size = 1) (hby : i.bytes = 1)
    (v : Value) (n : Nat) (xs : List UInt8) (hs : a.eval sl = v) (hown : w.ownsRow 0 e 1 v n (xs.map c8)) (s : ByteArray) (hx : a.eval x = .string s)
    (h63 : n + s.size ≤ maxLen) (hbytes : n + s.size ≤ 140737488355328)
    (h : ∀ v' w', w'.ownsRow 0 e 1 v' (n + s.size) ((xs ++ s.data.toList).map c8) → w.grownBy w' v.ownBlock → Moved w v v' → wpList P ops Q rest (a.put o.dst v') w') : wpList P ops Q (o :: rest) a w := by
  obtain ⟨v', w', hr, h2, h3, h4⟩ := run_append_str (P := P) w t u o.type e i ht hu hi hz hsize hby v n xs hown s h63 hbytes
  refine wpList_plain hgd fun K hK => ?_
  unfold Oper.wp execOp
  simp only [ho, resolve, invoke, builtin, Sem.run_bind, Sem.run_pure, Result.andThen_ok, List.map_toArray, List.map_cons, List.map_nil, hs, hx, hr]
  exact hK _ _ (h v' w' h2 h3 h4)
end
theorem RowAt.len {w : World} {v : Value} {xs : List Value} (h : RowAt w v xs) : ∃ a cap, v = .slice a xs.length cap := by
  obtain ⟨a, cap, rfl, _⟩ := h; exact ⟨a, cap, rfl⟩
theorem own_empty (w : World) (t : TypeId) (size : Nat) : (w.alloc (.cells #[] t)).ownsRow 0 t size (.slice (some ⟨w.heap.size, 0, none⟩) 0 0) 0 [] :=
  ⟨by simp, .inr ⟨w.heap.size, 0, #[], rfl, Nat.zero_le _, heap_alloc_new w _, Nat.le_refl _, Nat.zero_le _, by simp, by simp⟩⟩
section
variable {P : Program} (w : World)
theorem run_append_row (t ty e : TypeId) (i : TypeInfo) (z : Value) (bytes : Nat) (ht : P.underlying t = some (.slice e)) (hi : P.info? e = some i) (hz : i.zero = some z)
    (hsize : i.size = 1) (hby : i.bytes = bytes) (hzs : z.cells.size = 1)
    (v : Value) (n : Nat) (xs : List Value) (hown : w.ownsRow 0 e 1 v n xs)
    (vs : Value) (news : List Value) (hr : RowAt w vs news) (h1 : ∀ u ∈ news, u.oneCell' = true)
    (h63 : n + news.length ≤ maxLen) (hbytes : (n + news.length) * bytes ≤ 140737488355328) :
    ∃ v' w', (Builtin.append_ #[t, t] ty #[v, vs]).run P w = .ok v' w' ∧ w'.ownsRow 0 e 1 v' (n + news.length) (xs ++ news) ∧ w.grownBy w' v.ownBlock ∧ Moved w v v' := by
  obtain ⟨a, cap, rfl, hc⟩ := hr
  rcases a with _ | ad
  · have hn : news = [] := by
      rcases hc with h | ⟨b, off, h, _⟩
      · exact h
      · cases h
    subst hn
    refine ⟨v, w, ?_, by simpa using hown, grow_refl _ _, Moved.refl _ _⟩
    rcases hown.2 with ⟨rfl, rfl⟩ | ⟨g, cp, cur, rfl, _, _, hnc, _⟩
    · simp [Builtin.append_, run_underlying ht, sizeOf, typeInfo, hi, Builtin.lenOf, Builtin.firstCells]
    · simp [Builtin.append_, run_underlying ht, sizeOf, typeInfo, hi, Builtin.lenOf, Builtin.firstCells, hnc, storeCells]
  · refine run_append_buf w t ty e i z 1 bytes ht hi hz hsize hby hzs (by omega) v n xs hown ad news.length cap news (by omega) ?_ h1 h63 hbytes
    intro j u hu
    rcases hc with h | ⟨b, off, h, _, hc⟩
    · subst h; simp at hu
    · injection h with h
      subst h
      have hj : j < news.length := (List.getElem?_eq_some_iff.1 hu).1
      have e : (⟨b, off, none⟩ : Addr).add j = ⟨b, off + j, none⟩ := by unfold Addr.add; split <;> simp_all
      rw [e, hc j hj, List.getD, hu]; rfl
theorem wpList_append_row {ops : Array Oper} {rest : List Oper} {o : Oper} {a : Act} {Q : Exit → Act → World → Prop} (hgd : o.guard = none) (s x : Operand) (t : TypeId)
    (ho : o.op = .call { callee := .builtin .append, args := #[s, x], argTypes := #[t, t] })
    (e : TypeId) (i : TypeInfo) (z : Value) (bytes : Nat) (ht : P.underlying t = some (.slice e)) (hi : P.info? e = some i) (hz : i.zero = some z)
    (hsize : i.size = 1) (hby : i.bytes = bytes) (hzs : z.cells.size = 1)
    (v : Value) (n : Nat) (xs : List Value) (hs : a.eval s = v) (hown : w.ownsRow 0 e 1 v n xs)
    (vs : Value) (news : List Value) (hx : a.eval x = vs) (hr : RowAt w vs news) (h1 : ∀ u ∈ news, u.oneCell' = true)
    (h63 : n + news.length ≤ maxLen) (hbytes : (n + news.length) * bytes ≤ 140737488355328)
    (h : ∀ v' w', w'.ownsRow 0 e 1 v' (n + news.length) (xs ++ news) → w.grownBy w' v.ownBlock → Moved w v v' → wpList P ops Q rest (a.put o.dst v') w') : wpList P ops Q (o :: rest) a w := by
  obtain ⟨v', w', hrun, h2, h3, h4⟩ := run_append_row (P := P) w t o.type e i z bytes ht hi hz hsize hby hzs v n xs hown vs news hr h1 h63 hbytes
  refine wpList_plain hgd fun K hK => ?_
  unfold Oper.wp execOp
  simp only [ho, resolve, invoke, builtin, Sem.run_bind, Sem.run_pure, Result.andThen_ok, List.map_toArray, List.map_cons, List.map_nil, hs, hx, hrun]
  exact hK _ _ (h v' w' h2 h3 h4)
end
end Go.Proofs.YtphljjgjpkdpmaaGreatDoor
/- More small laws on buffers. -/
namespace Go.Proofs.YtphljjgjpkdpmaaGreatDoor
open Go.RowKit
set_option linter.unusedVariables false
theorem str_size (l : List UInt8) : (⟨l.toArray⟩ : ByteArray).size = l.length := by show l.toArray.size = _; simp
theorem own_keep {w w' : World} {e : TypeId} {size n : Nat} {v : Value} {xs : List Value} (h : w.ownsRow 0 e size v n xs) (g : w.grownBy w' none) : w'.ownsRow 0 e size v n xs :=
  h.kept g (by cases v.ownBlock <;> simp)
theorem own_form {w : World} {e : TypeId} {size n : Nat} {v : Value} {xs : List Value} (h : w.ownsRow 0 e size v n xs) : ∃ a cap, v = .slice a n cap := by
  rcases h.2 with ⟨rfl, rfl⟩ | ⟨g, cap, cur, rfl, _⟩
  · exact ⟨none, 0, rfl⟩
  · exact ⟨_, cap, rfl⟩
theorem one_i64 (n : Int) : ∀ u ∈ [Value.int .i64 n], u.oneCell' = true := by intro u hu; simp at hu; subst hu; rfl
theorem ones_i64 (l : List Int) : ∀ u ∈ l.map (Value.int .i64), u.oneCell' = true := by
  intro u hu; obtain ⟨b, _, rfl⟩ := List.mem_map.1 hu; rfl
theorem ones_str (l : List ByteArray) : ∀ u ∈ l.map Value.string, u.oneCell' = true := by
  intro u hu; obtain ⟨b, _, rfl⟩ := List.mem_map.1 hu; rfl
/-- The worlds of which I holds, as a type: the class of worlds in which a region that draws its order is walked. -/
structure Cls (I : World → Prop) where
  w : World
  h : I w
theorem wp_region_class {P : Program} {id : Nat} {Q : Exit → Act → World → Prop} {a : Act} {w : World} {l : List Oper} (I : World → Prop) (hm : P.follows .mixedOrders = true) (hB : Region.lexB .any l.toArray = true) (h0 : I w.drew)
    (h : wpQuiet P l.toArray (fun w' => ∃ p : Cls I, w' = p.w) (fun a' => ∀ w', (∃ p : Cls I, w' = p.w) → Q .normal a' w') l a) : (Code.region id l.toArray true).wp P Q a w :=
  wp_region_quiet (C := fun w' => ∃ p : Cls I, w' = p.w) hm hB ⟨⟨w.drew, h0⟩, rfl⟩ (by simpa using h)
theorem Cls.ne {I : World → Prop} {w : World} (h : I w) : Nonempty (Cls I) := ⟨⟨w, h⟩⟩
end Go.Proofs.YtphljjgjpkdpmaaGreatDoor
/- The check sum as plain functions: a register of 32 bits. -/
namespace Go.Proofs.YtphljjgjpkdpmaaGreatDoor
open Go.RowKit
set_option linter.unusedVariables false
/-- The polynomial. -/
def poly : BitVec 32 := 0xedb88320#32
/-- A register is moved down by a bit. -/
def mv (x : BitVec 32) : BitVec 32 := (x >>> 1) ^^^ (if x.getLsbD 0 then poly else 0#32)
theorem mv_xor (x y : BitVec 32) : mv (x ^^^ y) = mv x ^^^ mv y := by
  unfold mv
  rw [BitVec.ushiftRight_xor_distrib, BitVec.getLsbD_xor]
  apply BitVec.eq_of_getLsbD_eq
  intro i hi
  simp only [BitVec.getLsbD_xor]
  generalize (x >>> 1).getLsbD i = p
  generalize (y >>> 1).getLsbD i = q
  cases x.getLsbD 0 <;> cases y.getLsbD 0 <;> simp <;> cases p <;> cases q <;> cases poly.getLsbD i <;> rfl
/-- Moved down k times. -/
def mvs : Nat → BitVec 32 → BitVec 32
  | 0, x => x
  | k + 1, x => mvs k (mv x)
theorem mvs_xor (k : Nat) : ∀ x y : BitVec 32, mvs k (x ^^^ y) = mvs k x ^^^ mvs k y := by
  induction k with
  | zero => intro x y; rfl
  | succ k ih => intro x y; rw [mvs, mvs, mvs, mv_xor, ih]
theorem mvs_add (j k : Nat) : ∀ x : BitVec 32, mvs (j + k) x = mvs k (mvs j x) := by
  induction j with
  | zero => intro x; rw [Nat.zero_add]; rfl
  | succ j ih => intro x; rw [Nat.succ_add, mvs, ih, mvs]
theorem mv_zero : mv 0#32 = 0#32 := by decide
theorem mvs_zero (k : Nat) : mvs k 0#32 = 0#32 := by
  induction k with
  | zero => rfl
  | succ k ih => rw [mvs, mv_zero, ih]
theorem mv_inj {x : BitVec 32} (h : mv x = 0#32) : x = 0#32 := by
  have hp : poly.getLsbD 31 = true := by decide
  have h31 : (mv x).getLsbD 31 = false := by rw [h]; decide
  unfold mv at h h31
  rw [BitVec.getLsbD_xor] at h31
  have hs : (x >>> 1).getLsbD 31 = false := by rw [BitVec.getLsbD_ushiftRight]; exact BitVec.getLsbD_of_ge _ _ (by omega)
  rw [hs, Bool.false_xor] at h31
  cases h0 : x.getLsbD 0 with
  | true => rw [h0, if_pos rfl, hp] at h31; cases h31
  | false =>
    rw [h0] at h
    simp at h
    apply BitVec.eq_of_getLsbD_eq
    intro i hi
    rcases i with _ | i
    · rw [h0]; simp
    · have := congrArg (fun z => z.getLsbD i) h
      simp only [BitVec.getLsbD_ushiftRight] at this
      rw [Nat.add_comm] at this
      rw [this]; simp
theorem mvs_inj (k : Nat) : ∀ x : BitVec 32, mvs k x = 0#32 → x = 0#32 := by
  induction k with
  | zero => intro x h; exact h
  | succ k ih => intro x h; exact mv_inj (ih _ h)
/-- Bits that stand from bit k on only move. -/
theorem mv_low {x : BitVec 32} (h : x.getLsbD 0 = false) : mv x = x >>> 1 := by unfold mv; rw [h]; simp
theorem mvs_low : ∀ (k : Nat) (x : BitVec 32), (∀ i, i < k → x.getLsbD i = false) → mvs k x = x >>> k
  | 0, x, _ => by simp [mvs]
  | k + 1, x, h => by
    rw [mvs, mv_low (h 0 (by omega)), mvs_low k _ (fun i hi => by rw [BitVec.getLsbD_ushiftRight, Nat.add_comm]; exact h (i + 1) (by omega)), ← BitVec.shiftRight_add, Nat.add_comm 1 k]
/-- The table of four bits. -/
def tab4 (x : BitVec 32) : BitVec 32 := mvs 4 (x &&& 15#32)
theorem mvs4 (x : BitVec 32) : mvs 4 x = (x >>> 4) ^^^ tab4 x := by
  have hx : x = (x &&& ~~~15#32) ^^^ (x &&& 15#32) := by
    apply BitVec.eq_of_getLsbD_eq
    intro i hi
    simp only [BitVec.getLsbD_xor, BitVec.getLsbD_and, BitVec.getLsbD_not]
    cases x.getLsbD i <;> cases (15#32).getLsbD i <;> simp [hi]
  have h15 : ∀ i, i < 4 → (15#32).getLsbD i = true := by decide
  have hlow : mvs 4 (x &&& ~~~15#32) = (x &&& ~~~15#32) >>> 4 := mvs_low 4 _ (fun i hi => by
    rw [BitVec.getLsbD_and, BitVec.getLsbD_not, h15 i hi]; simp)
  have hsh : (x &&& ~~~15#32) >>> 4 = x >>> 4 := by
    apply BitVec.eq_of_getLsbD_eq
    intro i hi
    rw [BitVec.getLsbD_ushiftRight, BitVec.getLsbD_ushiftRight, BitVec.getLsbD_and, BitVec.getLsbD_not]
    by_cases h : 4 + i < 32
    · have h15' : (15#32).getLsbD (4 + i) = false := by
        have : ∀ j, j < 32 → 4 ≤ j → (15#32).getLsbD j = false := by decide
        exact this _ h (by omega)
      rw [h15']; simp [h]
    · rw [BitVec.getLsbD_of_ge _ _ (by omega)]; simp
  conv => lhs; rw [hx, mvs_xor, hlow, hsh]
  rfl
/-- A byte is taken. -/
def takeB (r : BitVec 32) (b : UInt8) : BitVec 32 := mvs 8 (r ^^^ BitVec.ofNat 32 b.toNat)
def takes (r : BitVec 32) (l : List UInt8) : BitVec 32 := l.foldl takeB r
def more (s : BitVec 32) (l : List UInt8) : BitVec 32 := ~~~ takes (~~~ s) l
end Go.Proofs.YtphljjgjpkdpmaaGreatDoor
