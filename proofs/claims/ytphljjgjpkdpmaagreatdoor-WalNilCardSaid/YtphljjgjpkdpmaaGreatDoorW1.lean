/- Several texts in one: B0 Op B1 B2. -/
import Derived.WalkKit
import Derived.Handy
import Derived.Lib.Hide
import Derived.BigQuiet
import Derived.Deep.DeepCutAuto
import Derived.Deep.RegionHeld3
import Derived.Deep.RegionWith
import Derived.Deep.RegionLaw
import Derived.Deep.DeepFit
import Derived.Deep.LoopGhost
import Derived.WalkSpells
import Derived.WalkLawsBesides
import Derived.Lib.AppendStr
import Derived.Deep.QuietTactic
import Derived.Test.YtphljjgjpkdpmaaGreatDoorRows
import Derived.ProofKit
import Derived.OpenShut
import Derived.Below
import Derived.Laws.OwnMore
import Derived.Laws.MakeOwn
import Derived.Deep.Draws
import Derived.Laws.Rows
import Derived.Laws.IdiomStrings
/- Small laws on buffers that grow, used by all walks of this seat. -/
namespace Go.Proofs.YtphljjgjpkdpmaaGreatDoor
open Go.RowKit
set_option linter.unusedVariables false
/-- The slice value lies where the elder one lay, or in a new block. -/
def Moved (w : World) (v v' : Value) : Prop := v'.ownBlock = v.ownBlock ∨ ∃ k, w.heap.size ≤ k ∧ v'.ownBlock = some k
theorem Moved.refl (w : World) (v : Value) : Moved w v v := .inl rfl
theorem Moved.trans {w w1 : World} {v v1 v2 : Value} (h : Moved w v v1) (hs : w.heap.size ≤ w1.heap.size) (k : Moved w1 v1 v2) : Moved w v v2 := by
  rcases k with k | ⟨j, hj, k⟩
  · rw [Moved, k]; exact h
  · exact .inr ⟨j, Nat.le_trans hs hj, k⟩
theorem grow_trans {w w1 w2 : World} {v v1 : Value} (g : w.grownBy w1 v.ownBlock) (m : Moved w v v1) (k : w1.grownBy w2 v1.ownBlock) : w.grownBy w2 v.ownBlock := by
  refine ⟨k.os.trans g.os, k.tape.trans g.tape, k.output.trans g.output, Nat.le_trans g.size k.size, fun i hi hn => ?_⟩
  rw [k.block i (Nat.lt_of_lt_of_le hi g.size) ?_, g.block i hi hn]
  rcases m with m | ⟨j, hj, m⟩
  · rw [m]; exact hn
  · rw [m]; intro e; injection e with e; omega
theorem grow_none {w w1 w2 : World} {r : Option Nat} (g : w.grownBy w1 none) (k : w1.grownBy w2 r) : w.grownBy w2 r :=
  ⟨k.os.trans g.os, k.tape.trans g.tape, k.output.trans g.output, Nat.le_trans g.size k.size, fun i hi hn => by
    rw [k.block i (Nat.lt_of_lt_of_le hi g.size) hn, g.block i hi (by simp)]⟩
theorem grow_then_none {w w1 w2 : World} {r : Option Nat} (g : w.grownBy w1 r) (k : w1.grownBy w2 none) : w.grownBy w2 r :=
  ⟨k.os.trans g.os, k.tape.trans g.tape, k.output.trans g.output, Nat.le_trans g.size k.size, fun i hi hn => by
    rw [k.block i (Nat.lt_of_lt_of_le hi g.size) (by simp), g.block i hi hn]⟩
theorem grow_refl (w : World) (r : Option Nat) : w.grownBy w r := ⟨rfl, rfl, rfl, Nat.le_refl _, fun _ _ _ => rfl⟩
theorem grow_to {w w' : World} {r : Option Nat} (g : w.grownBy w' none) : w.grownBy w' r := ⟨g.os, g.tape, g.output, g.size, fun i hi _ => g.block i hi (by simp)⟩
theorem below_of_none {w w' : World} (g : w.grownBy w' none) : Below w.heap.size w w' := ⟨g.os, g.tape, g.output, g.size, fun k hk => g.block k hk (by simp)⟩
theorem none_of_below {w w' : World} (g : Below w.heap.size w w') : w.grownBy w' none := ⟨g.os, g.tape, g.output, g.size, fun k hk _ => g.block k hk⟩
theorem grow_new {w w1 w2 : World} {j : Nat} (g : w.grownBy w1 none) (hj : w.heap.size ≤ j) (k : w1.grownBy w2 (some j)) : w.grownBy w2 none :=
  ⟨k.os.trans g.os, k.tape.trans g.tape, k.output.trans g.output, Nat.le_trans g.size k.size, fun i hi hn => by
    rw [k.block i (Nat.lt_of_lt_of_le hi g.size) (by intro e; injection e with e; omega), g.block i hi hn]⟩
theorem Moved_alloc {w : World} {o : Obj} {v v' : Value} (h : Moved (w.alloc o) v v') : Moved w v v' := by
  rcases h with h | ⟨k, hk, h⟩
  · exact .inl h
  · exact .inr ⟨k, by simp at hk; omega, h⟩
theorem cells_new1 (w : World) (x : Value) (t : TypeId) : ∀ j u, [x][j]? = some u → (w.alloc (.cells #[x] t)).cell? ((⟨w.heap.size, 0, none⟩ : Addr).add j) = some u := by
  intro j u h
  rcases j with _ | j
  · simp at h; subst h
    simp [Addr.add, World.cell?_alloc_at]
  · simp at h
theorem one_u8 (x : Int) : ∀ u ∈ [Value.int .u8 x], u.oneCell' = true := by
  intro u hu; simp at hu; subst hu; rfl
/-- A byte's cell. -/
def c8 (b : UInt8) : Value := .int .u8 (b.toNat : Int)
theorem one_c8 (l : List UInt8) : ∀ u ∈ l.map c8, u.oneCell' = true := by
  intro u hu
  obtain ⟨b, _, rfl⟩ := List.mem_map.1 hu
  rfl
theorem push_fold (l : List UInt8) : ∀ s : ByteArray, (l.map (fun b : UInt8 => ((b.toNat : Nat) : Int))).foldl (fun r n => r.push (UInt8.ofNat n.toNat)) s = s ++ ⟨l.toArray⟩ := by
  induction l with
  | nil => intro s; apply ByteArray.ext; simp
  | cons b l ih =>
    intro s
    rw [List.map_cons, List.foldl_cons, ih]
    apply ByteArray.ext
    simp [ByteArray.push]
theorem run_str_buf {P : Program} (w : World) {src dst e : TypeId} (hs : P.underlying src = some (.slice e)) (he : P.underlying e = some (.int .u8)) (hd : P.underlying dst = some .string)
    {v : Value} {n : Nat} {l : List UInt8} (ho : w.ownsRow 0 e 1 v n (l.map c8)) : (convert src dst v).run P w = .ok (.string ⟨l.toArray⟩) w := by
  rcases ho.2 with ⟨rfl, hn⟩ | ⟨g, cap, cur, rfl, _, hh, hnc, hcm, hcs, htake⟩
  · have : l = [] := by have := ho.1; rw [hn] at this; simpa using this
    subst this
    rw [run_convert_bytes_string w src dst e _ _ _ hs he hd]
    simp [Conv.bytesToString, Sem.run_pure]
    rfl
  · rw [run_convert_bytes_string w src dst e _ _ _ hs he hd, run_bytesToString w ⟨g, 0, none⟩ n cap (l.map (fun b : UInt8 => ((b.toNat : Nat) : Int)))]
    · rw [push_fold]; congr 2
    · have hc := ho.cells (g := g) rfl
      have hl := ho.1
      have hln : (l.map c8).length = n := by simpa using hl
      have := run_loadCells_list (P := P) w ⟨g, 0, none⟩ (l.map c8) hc
      rw [hln] at this
      rw [this]
      simp [Function.comp_def, c8]
section
variable {P : Program} (w : World)
theorem run_append_buf (t ty e : TypeId) (i : TypeInfo) (z : Value) (size bytes : Nat) (ht : P.underlying t = some (.slice e)) (hi : P.info? e = some i) (hz : i.zero = some z)
    (hsize : i.size = size) (hby : i.bytes = bytes) (hzs : z.cells.size = size) (hsz : 0 < size)
    (v : Value) (n : Nat) (xs : List Value) (hown : w.ownsRow 0 e size v n xs)
    (a : Addr) (m c : Nat) (news : List Value) (hl : news.length = m * size) (hnews : ∀ j u, news[j]? = some u → w.cell? (a.add j) = some u) (h1 : ∀ u ∈ news, u.oneCell' = true)
    (h63 : n + m ≤ maxLen) (hbytes : (n + m) * bytes ≤ 140737488355328) :
    ∃ v' w', (Builtin.append_ #[t, t] ty #[v, .slice (some a) m c]).run P w = .ok v' w' ∧ w'.ownsRow 0 e size v' (n + m) (xs ++ news) ∧ w.grownBy w' v.ownBlock ∧ Moved w v v' := by
  obtain ⟨v', w', hr, ho, hg, _⟩ := run_append_own (P := P) w 0 t ty e i z size bytes ht hi hz hsize hby hzs hsz v n xs hown a m c news hl hnews h1 h63 hbytes (Nat.zero_le _)
  refine ⟨v', w', hr, ho, hg, ?_⟩
  rcases hown.2 with ⟨rfl, rfl⟩ | ⟨g, cap, cur, rfl, _, hh, hnc, hcm, hcs, htake⟩
  · have hx : xs = [] := List.eq_nil_of_length_eq_zero (by simpa using hown.1)
    subst hx
    obtain ⟨v2, w2, hr2, ho2, _, _⟩ := run_append_own (P := P) w w.heap.size t ty e i z size bytes ht hi hz hsize hby hzs hsz (.slice none 0 0) 0 [] (World.ownsRow_nil _ _ _ _) a m c news hl hnews h1 h63 hbytes (Nat.le_refl _)
    rw [hr] at hr2
    injection hr2 with e1 e2
    subst e1 e2
    rcases hv : v'.ownBlock with _ | k
    · exact .inl (by rw [hv]; rfl)
    · exact .inr ⟨k, (ho2.lt k hv).1, hv⟩
  · subst hsize
    by_cases hroom : n + m ≤ cap
    · have hfit : n * i.size + news.length ≤ cur.size := by rw [hl, hcs, ← Nat.add_mul]; exact Nat.mul_le_mul_right _ hroom
      have hr2 := run_append_room (P := P) w t ty e i ht hi g n cap cur hh a m c news hl hnews h1 hroom hfit
      rw [hr] at hr2
      injection hr2 with e1 e2
      subst e1
      exact .inl rfl
    · have holds : ∀ j u, xs[j]? = some u → w.cell? ((⟨g, 0, none⟩ : Addr).add j) = some u := hown.cells (g := g) rfl
      have hmx : maxLen = 9223372036854775807 := by decide
      have hr2 := run_append_grow (P := P) w t ty e i z ht hi hz ⟨g, 0, none⟩ n cap xs hown.1 holds a m c news hl hnews (by omega) (by rw [hmx] at h63; omega) (growslice_fits (by omega) (by rw [hby]; exact hbytes))
      rw [hr] at hr2
      injection hr2 with e1 e2
      subst e1
      exact .inr ⟨_, Nat.le_refl _, rfl⟩
theorem wpList_append_buf {ops : Array Oper} {rest : List Oper} {o : Oper} {a : Act} {Q : Exit → Act → World → Prop} (hgd : o.guard = none) (s x : Operand) (t : TypeId)
    (ho : o.op = .call { callee := .builtin .append, args := #[s, x], argTypes := #[t, t] })
    (e : TypeId) (i : TypeInfo) (z : Value) (size bytes : Nat) (ht : P.underlying t = some (.slice e)) (hi : P.info? e = some i) (hz : i.zero = some z)
    (hsize : i.size = size) (hby : i.bytes = bytes) (hzs : z.cells.size = size) (hsz : 0 < size)
    (v : Value) (n : Nat) (xs : List Value) (hs : a.eval s = v) (hown : w.ownsRow 0 e size v n xs)
    (ad : Addr) (m c : Nat) (news : List Value) (hx : a.eval x = .slice (some ad) m c) (hl : news.length = m * size) (hnews : ∀ j u, news[j]? = some u → w.cell? (ad.add j) = some u) (h1 : ∀ u ∈ news, u.oneCell' = true)
    (h63 : n + m ≤ maxLen) (hbytes : (n + m) * bytes ≤ 140737488355328)
    (h : ∀ v' w', w'.ownsRow 0 e size v' (n + m) (xs ++ news) → w.grownBy w' v.ownBlock → Moved w v v' → wpList P ops Q rest (a.put o.dst v') w') : wpList P ops Q (o :: rest) a w := by
  obtain ⟨v', w', hr, h2, h3, h4⟩ := run_append_buf (P := P) w t o.type e i z size bytes ht hi hz hsize hby hzs hsz v n xs hown ad m c news hl hnews h1 h63 hbytes
  refine wpList_plain hgd fun K hK => ?_
  unfold Oper.wp execOp
  simp only [ho, resolve, invoke, builtin, Sem.run_bind, Sem.run_pure, Result.andThen_ok, List.map_toArray, List.map_cons, List.map_nil, hs, hx, hr]
  exact hK _ _ (h v' w' h2 h3 h4)
end
theorem grow_set (w : World) (a : Addr) (v : Value) : w.grownBy (w.setCell a v) (some a.block) :=
  ⟨rfl, rfl, rfl, by simp [World.setCell], fun k hk hn => Below.heap_setCell _ _ _ _ (fun e => hn (by rw [e]))⟩
theorem grow_same {w w1 w2 : World} {r : Option Nat} (g : w.grownBy w1 r) (k : w1.grownBy w2 r) : w.grownBy w2 r :=
  ⟨k.os.trans g.os, k.tape.trans g.tape, k.output.trans g.output, Nat.le_trans g.size k.size, fun i hi hn => by
    rw [k.block i (Nat.lt_of_lt_of_le hi g.size) hn, g.block i hi hn]⟩
theorem grow_alloc (w : World) (o : Obj) {w' : World} {r : Option Nat} (k : (w.alloc o).grownBy w' r) : w.grownBy w' r := grow_none (World.grownBy_alloc _ _ _) k
theorem grow_drew (w : World) {w' : World} {r : Option Nat} (k : w.drew.grownBy w' r) : w.grownBy w' r := ⟨k.os, k.tape, k.output, k.size, k.block⟩
theorem grow_drawn {w w' : World} {r : Option Nat} (k : w.grownBy w' r) : w.grownBy w'.drew r := ⟨k.os, k.tape, k.output, k.size, k.block⟩
theorem grow_drawnN {w w' : World} {r : Option Nat} (n : Nat) (k : w.grownBy w' r) : w.grownBy (w'.drewN n) r := ⟨k.os, k.tape, k.output, k.size, k.block⟩
theorem grow_setnew {w w1 : World} {r : Option Nat} (g : w.grownBy w1 r) {a : Addr} (ha : w.heap.size ≤ a.block) (v : Value) : w.grownBy (w1.setCell a v) r :=
  ⟨g.os, g.tape, g.output, by simpa [World.setCell] using g.size, fun k hk hn => by rw [Below.heap_setCell _ _ _ _ (by omega), g.block k hk hn]⟩
theorem grow_fr {w w' : World} {r : Option Nat} (g : w.grownBy w' r) {a : Addr} {f : Bool} (h : w.frozen? a = f) (hl : a.block < w.heap.size) (hn : some a.block ≠ r) : w'.frozen? a = f :=
  (World.frozen?_of_block (g.block a.block hl hn)).trans h
theorem two_cell1 (w : World) (x y : Value) (s t : TypeId) : ((w.alloc (.cells #[x] s)).alloc (.cells #[y] t)).cell? ⟨w.heap.size + 1, 0, none⟩ = some y := by
  rw [World.cell?_alloc_at _ _ _ _ (by simp)]; rfl
theorem two_cell0 (w : World) (x y : Value) (s t : TypeId) : ((w.alloc (.cells #[x] s)).alloc (.cells #[y] t)).cell? ⟨w.heap.size, 0, none⟩ = some x := by
  rw [World.cell?_alloc_past _ _ _ (by simp), World.cell?_alloc_at _ _ _ _ rfl]; rfl
theorem two_fr1 (w : World) (x y : Value) (s t : TypeId) : ((w.alloc (.cells #[x] s)).alloc (.cells #[y] t)).frozen? ⟨w.heap.size + 1, 0, none⟩ = false := World.frozen?_alloc_at _ _ _ _ (by simp)
/-- The slice value, if it lies anywhere, lies in a block that w has not. -/
def NewBlk (w : World) (v : Value) : Prop := ∀ k, v.ownBlock = some k → w.heap.size ≤ k
theorem NewBlk.moved {w w1 : World} {v v' : Value} (h : NewBlk w v) (hs : w.heap.size ≤ w1.heap.size) (m : Moved w1 v v') : NewBlk w v' := by
  intro k hk
  rcases m with m | ⟨j, hj, m⟩
  · exact h k (by rw [← m]; exact hk)
  · rw [m] at hk; injection hk with hk; omega
theorem grow_newblk {w w1 w2 : World} {v : Value} (g : w.grownBy w1 none) (h : NewBlk w v) (k : w1.grownBy w2 v.ownBlock) : w.grownBy w2 none := by
  refine ⟨k.os.trans g.os, k.tape.trans g.tape, k.output.trans g.output, Nat.le_trans g.size k.size, fun i hi hn => ?_⟩
  rw [k.block i (Nat.lt_of_lt_of_le hi g.size) ?_, g.block i hi hn]
  intro e
  have := h i e.symm
  omega
theorem newblk_nil (w : World) : NewBlk w (.slice none 0 0) := by intro k h; simp [Value.ownBlock] at h
theorem newblk_at (w : World) (j l c : Nat) (h : w.heap.size ≤ j) (o : Nat) : NewBlk w (.slice (some ⟨j, o, none⟩) l c) := by
  intro k hk; simp [Value.ownBlock] at hk; omega
/-- The slice value reads as the list of cells. -/
def RowAt (w : World) (v : Value) (xs : List Value) : Prop :=
  ∃ a cap, v = .slice a xs.length cap ∧ (xs = [] ∨ ∃ b off, a = some ⟨b, off, none⟩ ∧ b < w.heap.size ∧ ∀ j, j < xs.length → w.cell? ⟨b, off + j, none⟩ = some (xs.getD j undef))
theorem RowAt.kept {w w' : World} {v : Value} {xs : List Value} (h : RowAt w v xs) (g : w.grownBy w' none) : RowAt w' v xs := by
  obtain ⟨a, cap, rfl, h⟩ := h
  refine ⟨a, cap, rfl, ?_⟩
  rcases h with h | ⟨b, off, rfl, hb, hc⟩
  · exact .inl h
  · exact .inr ⟨b, off, rfl, Nat.lt_of_lt_of_le hb g.size, fun j hj => by rw [← hc j hj]; exact World.cell?_of_block (g.block b hb (by simp))⟩
theorem RowAt.of_own {w : World} {e : TypeId} {v : Value} {n : Nat} {xs : List Value} (h : w.ownsRow 0 e 1 v n xs) : RowAt w v xs := by
  have hl : xs.length = n := by have := h.1; omega
  rcases h.2 with ⟨rfl, rfl⟩ | ⟨g, cap, cur, rfl, _, hh, _⟩
  · have : xs = [] := List.eq_nil_of_length_eq_zero hl
    subst this
    exact ⟨none, 0, rfl, .inl rfl⟩
  · subst hl
    refine ⟨_, cap, rfl, .inr ⟨g, 0, rfl, (Array.getElem?_eq_some_iff.1 hh).1, fun j hj => ?_⟩⟩
    have := h.cells (g := g) rfl j (xs.getD j undef) (by simp [List.getD, List.getElem?_eq_getElem hj])
    have hadd : (⟨g, 0, none⟩ : Addr).add j = ⟨g, j, none⟩ := by unfold Addr.add; split <;> simp_all
    rw [hadd] at this
    rw [Nat.zero_add]
    exact this
/-- A slice that was just laid. -/
theorem RowAt.lit (w : World) (xs : List Value) (t : TypeId) (c n : Nat) (hn : xs.length = n) : RowAt (w.alloc (.cells xs.toArray t)) (.slice (some ⟨w.heap.size, 0, none⟩) n c) xs := by
  subst hn
  refine ⟨_, c, rfl, .inr ⟨w.heap.size, 0, rfl, by simp, fun j hj => ?_⟩⟩
  rw [World.cell?_alloc_at _ _ _ _ rfl]
  simp [List.getD, List.getElem?_eq_getElem hj]
section
variable {P : Program} (w : World)
theorem run_append_str (t u ty e : TypeId) (i : TypeInfo) (ht : P.underlying t = some (.slice e)) (hu : P.underlying u = some .string) (hi : P.info? e = some i) (hz : i.zero = some (.int .u8 0))
    (hsize : i.size = 1) (hby : i.bytes = 1)
    (v : Value) (n : Nat) (xs : List UInt8) (hown : w.ownsRow 0 e 1 v n (xs.map c8)) (s : ByteArray)
    (h63 : n + s.size ≤ maxLen) (hbytes : n + s.size ≤ 140737488355328) :
    ∃ v' w', (Builtin.append_ #[t, u] ty #[v, .string s]).run P w = .ok v' w' ∧ w'.ownsRow 0 e 1 v' (n + s.size) ((xs ++ s.data.toList).map c8) ∧ w.grownBy w' v.ownBlock ∧ Moved w v v' := by
  have es : Lib.strCells s = s.data.toList.map c8 := rfl
  obtain ⟨v', w', hr, ho, hg, _⟩ := Lib.run_append_own_string (P := P) w 0 t u ty e i ht hu hi hz hsize hby v n (xs.map c8) hown s h63 hbytes (Nat.zero_le _)
  rw [es, ← List.map_append] at ho
  refine ⟨v', w', hr, ho, hg, ?_⟩
  rcases hown.2 with ⟨rfl, rfl⟩ | ⟨g, cap, cur, rfl, _, hh, hnc, hcm, hcs, htake⟩
  · obtain ⟨v2, w2, hr2, ho2, _, _⟩ := Lib.run_append_own_string (P := P) w w.heap.size t u ty e i ht hu hi hz hsize hby (.slice none 0 0) 0 [] (World.ownsRow_nil _ _ _ _) s h63 hbytes (Nat.le_refl _)
    rw [hr] at hr2
    injection hr2 with e1 e2
    subst e1 e2
    rcases hv : v'.ownBlock with _ | k
    · exact .inl (by rw [hv]; rfl)
    · exact .inr ⟨k, (ho2.lt k hv).1, hv⟩
  · by_cases hroom : n + s.size ≤ cap
    · have hr2 := Lib.run_append_room_string (P := P) w t u ty e i ht hu hi hsize g n cap cur hh s hroom (by omega)
      rw [hr] at hr2
      injection hr2 with e1 e2
      subst e1
      exact .inl rfl
    · have hmx : maxLen = 9223372036854775807 := by decide
      have hr2 := Lib.run_append_grow_string (P := P) w t u ty e i (.int .u8 0) ht hu hi hz ⟨g, 0, none⟩ n cap (xs.map c8) (by rw [hsize]; exact hown.1) (hown.cells (g := g) rfl) s (by omega) (by rw [hmx] at h63; omega) (growslice_fits (by omega) (by rw [hby]; omega))
      rw [hr] at hr2
      injection hr2 with e1 e2
      subst e1
      exact .inr ⟨_, Nat.le_refl _, rfl⟩
theorem wpList_append_str {ops : Array Oper} {rest : List Oper} {o : Oper} {a : Act} {Q : Exit → Act → World → Prop} (hgd : o.guard = none) (sl x : Operand) (t u : TypeId)
    (ho : o.op = .call { callee := .builtin .append, args := #[sl, x], argTypes := #[t, u] })
    (e : TypeId) (i : TypeInfo) (ht : P.underlying t = some (.slice e)) (hu : P.underlying u = some .string) (hi : P.info? e = some i) (hz : i.zero = some (.int .u8 0))
    (hsize : i.size = 1) (hby : i.bytes = 1)
    (v : Value) (n : Nat) (xs : List UInt8) (hs : a.eval sl = v) (hown : w.ownsRow 0 e 1 v n (xs.map c8)) (s : ByteArray) (hx : a.eval x = .string s)
    (h63 : n + s.size ≤ maxLen) (hbytes : n + s.size ≤ 140737488355328)
    (h : ∀ v' w', w'.ownsRow 0 e 1 v' (n + s.size) ((xs ++ s.data.toList).map c8) → w.grownBy w' v.ownBlock → Moved w v v' → wpList P ops Q rest (a.put o.dst v') w') : wpList P ops Q (o :: rest) a w := by
  obtain ⟨v', w', hr, h2, h3, h4⟩ := run_append_str (P := P) w t u o.type e i ht hu hi hz hsize hby v n xs hown s h63 hbytes
  refine wpList_plain hgd fun K hK => ?_
  unfold Oper.wp execOp
  simp only [ho, resolve, invoke, builtin, Sem.run_bind, Sem.run_pure, Result.andThen_ok, List.map_toArray, List.map_cons, List.map_nil, hs, hx, hr]
  exact hK _ _ (h v' w' h2 h3 h4)
end
theorem RowAt.len {w : World} {v : Value} {xs : List Value} (h : RowAt w v xs) : ∃ a cap, v = .slice a xs.length cap := by
  obtain ⟨a, cap, rfl, _⟩ := h; exact ⟨a, cap, rfl⟩
theorem own_empty (w : World) (t : TypeId) (size : Nat) : (w.alloc (.cells #[] t)).ownsRow 0 t size (.slice (some ⟨w.heap.size, 0, none⟩) 0 0) 0 [] :=
  ⟨by simp, .inr ⟨w.heap.size, 0, #[], rfl, Nat.zero_le _, heap_alloc_new w _, Nat.le_refl _, Nat.zero_le _, by simp, by simp⟩⟩
section
variable {P : Program} (w : World)
theorem run_append_row (t ty e : TypeId) (i : TypeInfo) (z : Value) (bytes : Nat) (ht : P.underlying t = some (.slice e)) (hi : P.info? e = some i) (hz : i.zero = some z)
    (hsize : i.size = 1) (hby : i.bytes = bytes) (hzs : z.cells.size = 1)
    (v : Value) (n : Nat) (xs : List Value) (hown : w.ownsRow 0 e 1 v n xs)
    (vs : Value) (news : List Value) (hr : RowAt w vs news) (h1 : ∀ u ∈ news, u.oneCell' = true)
    (h63 : n + news.length ≤ maxLen) (hbytes : (n + news.length) * bytes ≤ 140737488355328) :
    ∃ v' w', (Builtin.append_ #[t, t] ty #[v, vs]).run P w = .ok v' w' ∧ w'.ownsRow 0 e 1 v' (n + news.length) (xs ++ news) ∧ w.grownBy w' v.ownBlock ∧ Moved w v v' := by
  obtain ⟨a, cap, rfl, hc⟩ := hr
  rcases a with _ | ad
  · have hn : news = [] := by
      rcases hc with h | ⟨b, off, h, _⟩
      · exact h
      · cases h
    subst hn
    refine ⟨v, w, ?_, by simpa using hown, grow_refl _ _, Moved.refl _ _⟩
    rcases hown.2 with ⟨rfl, rfl⟩ | ⟨g, cp, cur, rfl, _, _, hnc, _⟩
    · simp [Builtin.append_, run_underlying ht, sizeOf, typeInfo, hi, Builtin.lenOf, Builtin.firstCells]
    · simp [Builtin.append_, run_underlying ht, sizeOf, typeInfo, hi, Builtin.lenOf, Builtin.firstCells, hnc, storeCells]
  · refine run_append_buf w t ty e i z 1 bytes ht hi hz hsize hby hzs (by omega) v n xs hown ad news.length cap news (by omega) ?_ h1 h63 hbytes
    intro j u hu
    rcases hc with h | ⟨b, off, h, _, hc⟩
    · subst h; simp at hu
    · injection h with h
      subst h
      have hj : j < news.length := (List.getElem?_eq_some_iff.1 hu).1
      have e : (⟨b, off, none⟩ : Addr).add j = ⟨b, off + j, none⟩ := by unfold Addr.add; split <;> simp_all
      rw [e, hc j hj, List.getD, hu]; rfl
theorem wpList_append_row {ops : Array Oper} {rest : List Oper} {o : Oper} {a : Act} {Q : Exit → Act → World → Prop} (hgd : o.guard = none) (s x : Operand) (t : TypeId)
    (ho : o.op = .call { callee := .builtin .append, args := #[s, x], argTypes := #[t, t] })
    (e : TypeId) (i : TypeInfo) (z : Value) (bytes : Nat) (ht : P.underlying t = some (.slice e)) (hi : P.info? e = some i) (hz : i.zero = some z)
    (hsize : i.size = 1) (hby : i.bytes = bytes) (hzs : z.cells.size = 1)
    (v : Value) (n : Nat) (xs : List Value) (hs : a.eval s = v) (hown : w.ownsRow 0 e 1 v n xs)
    (vs : Value) (news : List Value) (hx : a.eval x = vs) (hr : RowAt w vs news) (h1 : ∀ u ∈ news, u.oneCell' = true)
    (h63 : n + news.length ≤ maxLen) (hbytes : (n + news.length) * bytes ≤ 140737488355328)
    (h : ∀ v' w', w'.ownsRow 0 e 1 v' (n + news.length) (xs ++ news) → w.grownBy w' v.ownBlock → Moved w v v' → wpList P ops Q rest (a.put o.dst v') w') : wpList P ops Q (o :: rest) a w := by
  obtain ⟨v', w', hrun, h2, h3, h4⟩ := run_append_row (P := P) w t o.type e i z bytes ht hi hz hsize hby hzs v n xs hown vs news hr h1 h63 hbytes
  refine wpList_plain hgd fun K hK => ?_
  unfold Oper.wp execOp
  simp only [ho, resolve, invoke, builtin, Sem.run_bind, Sem.run_pure, Result.andThen_ok, List.map_toArray, List.map_cons, List.map_nil, hs, hx, hrun]
  exact hK _ _ (h v' w' h2 h3 h4)
end
end Go.Proofs.YtphljjgjpkdpmaaGreatDoor
/- How an argument that came in is opened for a walk. -/
namespace Go.Proofs.YtphljjgjpkdpmaaGreatDoor
open Go.RowKit Go.ChangeShapes Go.WideShapes Go.ChangeAt
set_option linter.unusedVariables false
open Go.ChangeMaps (open_string)
theorem row_of_cells (w : World) (a : Addr) (cap : Nat) (xs : List Value) (n : Nat) (hn : xs.length = n) (h : ∀ i, i < xs.length → w.cell? (a.add i) = some (xs.getD i undef)) : RowAt w (.slice (some a) n cap) xs := by
  subst hn
  refine ⟨_, cap, rfl, ?_⟩
  cases xs with
  | nil => exact .inl rfl
  | cons x xs =>
    right
    have h0 := h 0 (by simp)
    have hz0 : a.add 0 = a := rfl
    rw [hz0] at h0
    clear hz0
    obtain ⟨b, off, sp⟩ := a
    cases sp with
    | some s => simp only [World.cell?] at h0; split at h0 <;> simp at h0
    | none =>
      refine ⟨b, off, rfl, World.block_lt_of_cell? w _ h0, fun j hj => ?_⟩
      have := h j hj
      have e : (⟨b, off, none⟩ : Addr).add j = ⟨b, off + j, none⟩ := by unfold Addr.add; split <;> simp_all
      rwa [e] at this
section
variable {H : Type} {enc : TypeId × Value → H} {P : Program} {w : World} {base : Nat} {held : Bool} {sp : Nat → Bool}
theorem open_texts {r : Reach} {b0 : Nat} {t e : TypeId} {v : Value} {d : DataW H} {ps : List MemPlace} (ht : P.underlying t = some (.slice e)) (he : P.underlying e = some .string) (hc : P.cellsOf e = 1)
    (hval : Value.okWide P w r b0 t v) (hd : DataW.Trod enc P w base sp held t v d ps) :
    ∃ l : List ByteArray, RowAt w v (l.map Value.string) ∧ (∀ s ∈ l, s.size ≤ maxLen) ∧ l.length ≤ maxLen := by
  obtain ⟨a, len, cap, rfl⟩ := okWide_slice ht hval
  obtain ⟨fuel, hf⟩ := hd
  rcases open_strings ht he hc hf with ⟨hcs, _⟩ | ⟨x, l, c, ss, hcs, _, hl, hm, hz, _, hcell, hws⟩
  · simp [Value.cells] at hcs
    obtain ⟨rfl, rfl, rfl⟩ := hcs
    exact ⟨[], ⟨none, 0, rfl, .inl rfl⟩, by simp, by simp⟩
  · simp [Value.cells] at hcs
    obtain ⟨rfl, rfl, rfl⟩ := hcs
    have hll : len ≤ ss.length := by rw [hz]; split <;> omega
    refine ⟨ss.take len, row_of_cells _ _ _ _ _ (by simp; omega) (fun i hi => ?_), fun s hs => hws s (List.mem_of_mem_take hs), by simp; omega⟩
    simp only [List.length_map, List.length_take] at hi
    have hi' : i < ss.length := by omega
    rw [hcell i hi']
    simp [show i < len by omega, List.getElem?_eq_getElem hi']
theorem open_nums {r : Reach} {b0 : Nat} {t e : TypeId} {k : IntKind} {v : Value} {d : DataW H} {ps : List MemPlace} (ht : P.underlying t = some (.slice e)) (he : P.underlying e = some (.int k)) (hc : P.cellsOf e = 1)
    (hval : Value.okWide P w r b0 t v) (hd : DataW.Trod enc P w base sp held t v d ps) :
    ∃ l : List Int, RowAt w v (l.map (Value.int k)) ∧ (∀ n ∈ l, (Lit.int k n).wf = true) ∧ l.length ≤ maxLen := by
  obtain ⟨a, len, cap, rfl⟩ := okWide_slice ht hval
  obtain ⟨fuel, hf⟩ := hd
  rcases open_ints ht he hc hf with ⟨hcs, _⟩ | ⟨x, l, c, ss, hcs, _, hl, hm, hz, _, hcell, hws⟩
  · simp [Value.cells] at hcs
    obtain ⟨rfl, rfl, rfl⟩ := hcs
    exact ⟨[], ⟨none, 0, rfl, .inl rfl⟩, by simp, by simp⟩
  · simp [Value.cells] at hcs
    obtain ⟨rfl, rfl, rfl⟩ := hcs
    have hll : len ≤ ss.length := by rw [hz]; split <;> omega
    refine ⟨ss.take len, row_of_cells _ _ _ _ _ (by simp; omega) (fun i hi => ?_), fun s hs => hws s (List.mem_of_mem_take hs), by simp; omega⟩
    simp only [List.length_map, List.length_take] at hi
    have hi' : i < ss.length := by omega
    rw [hcell i hi']
    simp [show i < len by omega, List.getElem?_eq_getElem hi']
end
theorem bd_i64 {n : Int} (h : (Lit.int .i64 n).wf = true) : -9223372036854775808 ≤ n ∧ n ≤ 9223372036854775807 := by simpa [Lit.wf, IntKind.min, IntKind.max, IntKind.signed, IntKind.bits] using h
theorem bd_u8 {n : Int} (h : (Lit.int .u8 n).wf = true) : 0 ≤ n ∧ n ≤ 255 := by simpa [Lit.wf, IntKind.min, IntKind.max, IntKind.signed, IntKind.bits] using h
theorem bd_u32 {n : Int} (h : (Lit.int .u32 n).wf = true) : 0 ≤ n ∧ n ≤ 4294967295 := by simpa [Lit.wf, IntKind.min, IntKind.max, IntKind.signed, IntKind.bits] using h
theorem trod_below {H : Type} {enc : TypeId × Value → H} {P : Program} {W : World} {t : TypeId} {v : Value} {d : DataW H} {ps : List MemPlace} (h : DataW.Trod enc P W 0 (fun _ => true) true t v d ps) : ∀ x ∈ ps, x.block < W.heap.size := by
  obtain ⟨m, hm⟩ := h; exact DataW.trod_lt m _ _ _ hm
end Go.Proofs.YtphljjgjpkdpmaaGreatDoor
/- More small laws on buffers. -/
namespace Go.Proofs.YtphljjgjpkdpmaaGreatDoor
open Go.RowKit
set_option linter.unusedVariables false
theorem str_size (l : List UInt8) : (⟨l.toArray⟩ : ByteArray).size = l.length := by show l.toArray.size = _; simp
theorem own_keep {w w' : World} {e : TypeId} {size n : Nat} {v : Value} {xs : List Value} (h : w.ownsRow 0 e size v n xs) (g : w.grownBy w' none) : w'.ownsRow 0 e size v n xs :=
  h.kept g (by cases v.ownBlock <;> simp)
theorem own_form {w : World} {e : TypeId} {size n : Nat} {v : Value} {xs : List Value} (h : w.ownsRow 0 e size v n xs) : ∃ a cap, v = .slice a n cap := by
  rcases h.2 with ⟨rfl, rfl⟩ | ⟨g, cap, cur, rfl, _⟩
  · exact ⟨none, 0, rfl⟩
  · exact ⟨_, cap, rfl⟩
theorem one_i64 (n : Int) : ∀ u ∈ [Value.int .i64 n], u.oneCell' = true := by intro u hu; simp at hu; subst hu; rfl
theorem ones_i64 (l : List Int) : ∀ u ∈ l.map (Value.int .i64), u.oneCell' = true := by
  intro u hu; obtain ⟨b, _, rfl⟩ := List.mem_map.1 hu; rfl
theorem ones_str (l : List ByteArray) : ∀ u ∈ l.map Value.string, u.oneCell' = true := by
  intro u hu; obtain ⟨b, _, rfl⟩ := List.mem_map.1 hu; rfl
/-- The worlds of which I holds, as a type: the class of worlds in which a region that draws its order is walked. -/
structure Cls (I : World → Prop) where
  w : World
  h : I w
theorem wp_region_class {P : Program} {id : Nat} {Q : Exit → Act → World → Prop} {a : Act} {w : World} {l : List Oper} (I : World → Prop) (hm : P.follows .mixedOrders = true) (hB : Region.lexB .any l.toArray = true) (h0 : I w.drew)
    (h : wpQuiet P l.toArray (fun w' => ∃ p : Cls I, w' = p.w) (fun a' => ∀ w', (∃ p : Cls I, w' = p.w) → Q .normal a' w') l a) : (Code.region id l.toArray true).wp P Q a w :=
  wp_region_quiet (C := fun w' => ∃ p : Cls I, w' = p.w) hm hB ⟨⟨w.drew, h0⟩, rfl⟩ (by simpa using h)
theorem Cls.ne {I : World → Prop} {w : World} (h : I w) : Nonempty (Cls I) := ⟨⟨w, h⟩⟩
end Go.Proofs.YtphljjgjpkdpmaaGreatDoor
/- Blocks that are known whole; make; rows of them. -/
namespace Go.Proofs.YtphljjgjpkdpmaaGreatDoor
open Go.RowKit
set_option linter.unusedVariables false
/-- Block g is just these cells. -/
def Blk (w : World) (g : Nat) (t : TypeId) (xs : List Value) : Prop := w.heap[g]? = some (.cells xs.toArray t (0, 0))
section
variable {w w' : World} {g : Nat} {t : TypeId} {xs : List Value}
theorem Blk.lt (h : Blk w g t xs) : g < w.heap.size := (Array.getElem?_eq_some_iff.1 h).1
theorem Blk.cell (h : Blk w g t xs) (i : Nat) (hi : i < xs.length) : w.cell? ⟨g, i, none⟩ = some (xs.getD i undef) := by
  rw [cell_of_row w g i xs.toArray t (0, 0) h]
  simp [List.getD, List.getElem?_eq_getElem hi]
theorem Blk.frozen (h : Blk w g t xs) (i : Nat) : w.frozen? ⟨g, i, none⟩ = false := by
  unfold Blk at h
  simp [World.frozen?, h]
theorem Blk.new (w : World) (t : TypeId) (xs : List Value) : Blk (w.alloc (.cells xs.toArray t)) w.heap.size t xs := heap_alloc_new w _
theorem Blk.drew (h : Blk w g t xs) : Blk w.drew g t xs := h
theorem Blk.drewN (h : Blk w g t xs) (n : Nat) : Blk (w.drewN n) g t xs := h
theorem Blk.alloc (h : Blk w g t xs) (o : Obj) : Blk (w.alloc o) g t xs := (Below.heap_alloc w o g h.lt).trans h
theorem Blk.set_ (h : Blk w g t xs) (i : Nat) (u : Value) : Blk (w.setCell ⟨g, i, none⟩ u) g t (xs.set i u) := by
  unfold Blk at h ⊢
  simp [World.setCell, Array.getElem?_modify, h]
theorem Blk.far (h : Blk w g t xs) {p : Addr} (hp : g ≠ p.block) (u : Value) : Blk (w.setCell p u) g t xs := (Below.heap_setCell w p u g hp).trans h
theorem Blk.below {B : Nat} (h : Blk w g t xs) (hb : Below B w w') (hg : g < B) : Blk w' g t xs := (hb.block g hg).trans h
theorem Blk.kept (h : Blk w g t xs) {row : Option Nat} (hb : w.grownBy w' row) (hg : some g ≠ row) : Blk w' g t xs := (hb.block g h.lt hg).trans h
theorem Blk.keep (h : Blk w g t xs) (hb : w.grownBy w' none) : Blk w' g t xs := h.kept hb (by simp)
theorem Blk.row (h : Blk w g t xs) (n c : Nat) (hn : xs.length = n) : RowAt w (.slice (some ⟨g, 0, none⟩) n c) xs := by
  subst hn
  refine ⟨_, c, rfl, .inr ⟨g, 0, rfl, h.lt, fun j hj => ?_⟩⟩
  rw [Nat.zero_add]
  exact h.cell j hj
theorem Blk.own (h : Blk w g t xs) (n : Nat) (hn : xs.length = n) (hm : n ≤ maxLen) : w.ownsRow 0 t 1 (.slice (some ⟨g, 0, none⟩) n n) n xs := by
  subst hn
  exact ⟨by simp, .inr ⟨g, xs.length, xs.toArray, rfl, Nat.zero_le _, h, Nat.le_refl _, hm, by simp, by simp⟩⟩
end
/-- Block g begins with these bytes, which may be written. -/
def Byt (w : World) (g : Nat) (t : TypeId) (l : List UInt8) : Prop :=
  ∃ (cs : Array Value) (lo hi : Nat), w.heap[g]? = some (.cells cs t (lo, hi)) ∧ l.length ≤ lo ∧ ∀ j (h : j < l.length), cs[j]? = some (c8 l[j])
section
variable {w w' : World} {g : Nat} {t : TypeId} {l : List UInt8}
theorem Byt.lt (h : Byt w g t l) : g < w.heap.size := by
  obtain ⟨cs, lo, hi, h, _⟩ := h
  exact (Array.getElem?_eq_some_iff.1 h).1
theorem Byt.cell (h : Byt w g t l) (i : Nat) (hi : i < l.length) : w.cell? ⟨g, i, none⟩ = some (.int .u8 ((l[i].toNat : Nat) : Int)) := by
  obtain ⟨cs, lo, hi', h, _, hc⟩ := h
  rw [cell_of_row w g i cs t (lo, hi') h, hc i hi]; rfl
theorem Byt.frozen (h : Byt w g t l) (i : Nat) (hi : i < l.length) : w.frozen? ⟨g, i, none⟩ = false := by
  obtain ⟨cs, lo, hi', h, h1, _⟩ := h
  simp [World.frozen?, h]
  omega
theorem Byt.drew (h : Byt w g t l) : Byt w.drew g t l := h
theorem Byt.kept (h : Byt w g t l) {row : Option Nat} (hb : w.grownBy w' row) (hg : some g ≠ row) : Byt w' g t l := by
  have hl := h.lt
  obtain ⟨cs, lo, hi', h, h1, h2⟩ := h
  exact ⟨cs, lo, hi', (hb.block g hl hg).trans h, h1, h2⟩
theorem Byt.keep (h : Byt w g t l) (hb : w.grownBy w' none) : Byt w' g t l := h.kept hb (by simp)
theorem Byt.set_ (h : Byt w g t l) (i : Nat) (v : UInt8) (x : Int) (hx : x = (v.toNat : Int)) : Byt (w.setCell ⟨g, i, none⟩ (.int .u8 x)) g t (l.set i v) := by
  obtain ⟨cs, lo, hi', h, h1, h2⟩ := h
  refine ⟨cs.setIfInBounds i (.int .u8 x), lo, hi', ?_, by rw [List.length_set]; exact h1, fun j hj => ?_⟩
  · simp [World.setCell, Array.getElem?_modify, h]
  · rw [List.length_set] at hj
    have h3 := h2 j hj
    by_cases e : i = j
    · subst e
      have hlt : i < cs.size := (Array.getElem?_eq_some_iff.1 h3).1
      simp [hlt, hx, c8]
    · rw [Array.getElem?_setIfInBounds_ne e, h3, List.getElem_set_ne e]
theorem Byt.str {P : Program} (h : Byt w g t l) (src dst : TypeId) (cap : Nat) (hs : P.underlying src = some (.slice t)) (he : P.underlying t = some (.int .u8)) (hd : P.underlying dst = some .string) (n : Nat) (hn : l.length = n) :
    (convert src dst (.slice (some ⟨g, 0, none⟩) n cap)).run P w = .ok (.string ⟨l.toArray⟩) w := by
  subst hn
  refine run_convert_bytes_back w src dst t ⟨g, 0, none⟩ cap l hs he hd fun j hj => ?_
  have e : (⟨g, 0, none⟩ : Addr).add j = ⟨g, j, none⟩ := by unfold Addr.add; split <;> simp_all
  rw [e]
  exact h.cell j hj
/-- A string's bytes in a new block. -/
def bytesOf (w : World) (e : TypeId) (s : ByteArray) : World := w.drew.alloc (.cells (bytesRow s (grownCap w s.size 0 e)) e ((bytesRow s (grownCap w s.size 0 e)).size, (bytesRow s (grownCap w s.size 0 e)).size + 1))
theorem run_bytes {P : Program} (w : World) (src dst e : TypeId) (s : ByteArray) (hs : P.underlying src = some .string) (hd : P.underlying dst = some (.slice e)) (he : P.underlying e = some (.int .u8)) :
    (convert src dst (.string s)).run P w = .ok (.slice (some ⟨w.heap.size, 0, none⟩) s.size (grownCap w s.size 0 e)) (bytesOf w e s) := run_bytes_of_string w src dst e s hs hd he
theorem bytesOf_grow (w : World) (e : TypeId) (s : ByteArray) : w.grownBy (bytesOf w e s) none := grow_none (grow_drawn (grow_refl w none)) (World.grownBy_alloc _ _ _)
theorem bytesOf_byt (w : World) (e : TypeId) (s : ByteArray) : Byt (bytesOf w e s) w.heap.size e s.data.toList := by
  refine ⟨bytesRow s (grownCap w s.size 0 e), _, _, heap_alloc_new w.drew _, ?_, fun j hj => ?_⟩
  · rw [Array.length_toList]
    unfold bytesRow
    simp
  · rw [Array.length_toList] at hj
    exact bytesRow_at s _ j hj
end
theorem madeCells_one (z : Value) (n : Nat) (hz : z.cells = #[z]) : madeCells z.cells n = (List.replicate n z).toArray := by
  rw [hz]
  apply Array.ext
  · rw [size_madeCells]; simp
  · intro i h1 h2
    simp [madeCells, Nat.mod_one]
theorem run_make_one {P : Program} (t e : TypeId) (i : TypeInfo) (z : Value) (b : Nat) (ht : P.underlying t = some (.slice e)) (hi : P.info? e = some i) (hz : i.zero = some z) (hone : z.cells = #[z]) (hs : i.size = 1) (hb : i.bytes = b)
    (kl kc : IntKind) (n c : Nat) (hnc : n ≤ c) (hbytes : b * c ≤ 281474976710656) (h63 : c ≤ 9223372036854775807) (w : World) :
    (Instr.makeSlice t (.int kl (n : Int)) (.int kc (c : Int))).run P w = .ok (.slice (some ⟨w.heap.size, 0, none⟩) n c) (w.alloc (.cells (List.replicate c z).toArray e)) := by
  have hb' : (i.bytes : Int) * (c : Int) ≤ 281474976710656 := by
    have h : ((i.bytes * c : Nat) : Int) ≤ 281474976710656 := by rw [hb]; omega
    rwa [Int.natCast_mul] at h
  have hr := run_make (P := P) w t e i z ht hi hz kl kc n c (by omega) (by omega) hb' (by omega)
  simp only [Int.toNat_natCast] at hr
  rw [hs, Nat.mul_one, madeCells_one z c hone] at hr
  exact hr
theorem set_c8 (l : List UInt8) (k : Nat) (v : UInt8) (x : Int) (hx : x = (v.toNat : Int)) : (l.map c8).set k (.int .u8 x) = (l.set k v).map c8 := by
  rw [hx, List.map_set]; rfl
theorem getD_c8 (l : List UInt8) (k : Nat) (hk : k < l.length) : (l.map c8).getD k undef = .int .u8 ((l.getD k 0).toNat : Int) := by
  simp [List.getD, List.getElem?_eq_getElem hk, c8]
theorem replicate_c8 (n : Nat) : List.replicate n (Value.int .u8 0) = (List.replicate n (0 : UInt8)).map c8 := by
  rw [List.map_replicate]; rfl
theorem byte_get (s : ByteArray) (k : Nat) (hk : k < s.size) : s.data.toList.getD k 0 = s[k] := by
  have : k < s.data.toList.length := by rw [Array.length_toList]; exact hk
  rw [List.getD, List.getElem?_eq_getElem this]; rfl
end Go.Proofs.YtphljjgjpkdpmaaGreatDoor
