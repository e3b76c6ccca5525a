/- Several texts in one: B2 Step. -/
import Derived.Test.YtphljjgjpkdpmaaGreatDoorK1
import Derived.Below
import Derived.Laws.OwnMore
import Derived.Laws.MakeOwn
import Derived.Deep.Draws
import Derived.Laws.Rows
import Derived.Laws.IdiomStrings
import Derived.Deep.RegionLaw
/- Blocks that are known whole; make; rows of them. -/
namespace Go.Proofs.YtphljjgjpkdpmaaGreatDoor
open Go.RowKit
set_option linter.unusedVariables false
/-- Block g is just these cells. -/
def Blk (w : World) (g : Nat) (t : TypeId) (xs : List Value) : Prop := w.heap[g]? = some (.cells xs.toArray t (0, 0))
section
variable {w w' : World} {g : Nat} {t : TypeId} {xs : List Value}
theorem Blk.lt (h : Blk w g t xs) : g < w.heap.size := (Array.getElem?_eq_some_iff.1 h).1
theorem Blk.cell (h : Blk w g t xs) (i : Nat) (hi : i < xs.length) : w.cell? ⟨g, i, none⟩ = some (xs.getD i undef) := by
  rw [cell_of_row w g i xs.toArray t (0, 0) h]
  simp [List.getD, List.getElem?_eq_getElem hi]
theorem Blk.frozen (h : Blk w g t xs) (i : Nat) : w.frozen? ⟨g, i, none⟩ = false := by
  unfold Blk at h
  simp [World.frozen?, h]
theorem Blk.new (w : World) (t : TypeId) (xs : List Value) : Blk (w.alloc (.cells xs.toArray t)) w.heap.size t xs := heap_alloc_new w _
theorem Blk.drew (h : Blk w g t xs) : Blk w.drew g t xs := h
theorem Blk.drewN (h : Blk w g t xs) (n : Nat) : Blk (w.drewN n) g t xs := h
theorem Blk.alloc (h : Blk w g t xs) (o : Obj) : Blk (w.alloc o) g t xs := (Below.heap_alloc w o g h.lt).trans h
theorem Blk.set_ (h : Blk w g t xs) (i : Nat) (u : Value) : Blk (w.setCell ⟨g, i, none⟩ u) g t (xs.set i u) := by
  unfold Blk at h ⊢
  simp [World.setCell, Array.getElem?_modify, h]
theorem Blk.far (h : Blk w g t xs) {p : Addr} (hp : g ≠ p.block) (u : Value) : Blk (w.setCell p u) g t xs := (Below.heap_setCell w p u g hp).trans h
theorem Blk.below {B : Nat} (h : Blk w g t xs) (hb : Below B w w') (hg : g < B) : Blk w' g t xs := (hb.block g hg).trans h
theorem Blk.kept (h : Blk w g t xs) {row : Option Nat} (hb : w.grownBy w' row) (hg : some g ≠ row) : Blk w' g t xs := (hb.block g h.lt hg).trans h
theorem Blk.keep (h : Blk w g t xs) (hb : w.grownBy w' none) : Blk w' g t xs := h.kept hb (by simp)
theorem Blk.row (h : Blk w g t xs) (n c : Nat) (hn : xs.length = n) : RowAt w (.slice (some ⟨g, 0, none⟩) n c) xs := by
  subst hn
  refine ⟨_, c, rfl, .inr ⟨g, 0, rfl, h.lt, fun j hj => ?_⟩⟩
  rw [Nat.zero_add]
  exact h.cell j hj
theorem Blk.own (h : Blk w g t xs) (n : Nat) (hn : xs.length = n) (hm : n ≤ maxLen) : w.ownsRow 0 t 1 (.slice (some ⟨g, 0, none⟩) n n) n xs := by
  subst hn
  exact ⟨by simp, .inr ⟨g, xs.length, xs.toArray, rfl, Nat.zero_le _, h, Nat.le_refl _, hm, by simp, by simp⟩⟩
end
/-- Block g begins with these bytes, which may be written. -/
def Byt (w : World) (g : Nat) (t : TypeId) (l : List UInt8) : Prop :=
  ∃ (cs : Array Value) (lo hi : Nat), w.heap[g]? = some (.cells cs t (lo, hi)) ∧ l.length ≤ lo ∧ ∀ j (h : j < l.length), cs[j]? = some (c8 l[j])
section
variable {w w' : World} {g : Nat} {t : TypeId} {l : List UInt8}
theorem Byt.lt (h : Byt w g t l) : g < w.heap.size := by
  obtain ⟨cs, lo, hi, h, _⟩ := h
  exact (Array.getElem?_eq_some_iff.1 h).1
theorem Byt.cell (h : Byt w g t l) (i : Nat) (hi : i < l.length) : w.cell? ⟨g, i, none⟩ = some (.int .u8 ((l[i].toNat : Nat) : Int)) := by
  obtain ⟨cs, lo, hi', h, _, hc⟩ := h
  rw [cell_of_row w g i cs t (lo, hi') h, hc i hi]; rfl
theorem Byt.frozen (h : Byt w g t l) (i : Nat) (hi : i < l.length) : w.frozen? ⟨g, i, none⟩ = false := by
  obtain ⟨cs, lo, hi', h, h1, _⟩ := h
  simp [World.frozen?, h]
  omega
theorem Byt.drew (h : Byt w g t l) : Byt w.drew g t l := h
theorem Byt.kept (h : Byt w g t l) {row : Option Nat} (hb : w.grownBy w' row) (hg : some g ≠ row) : Byt w' g t l := by
  have hl := h.lt
  obtain ⟨cs, lo, hi', h, h1, h2⟩ := h
  exact ⟨cs, lo, hi', (hb.block g hl hg).trans h, h1, h2⟩
theorem Byt.keep (h : Byt w g t l) (hb : w.grownBy w' none) : Byt w' g t l := h.kept hb (by simp)
theorem Byt.set_ (h : Byt w g t l) (i : Nat) (v : UInt8) (x : Int) (hx : x = (v.toNat : Int)) : Byt (w.setCell ⟨g, i, none⟩ (.int .u8 x)) g t (l.set i v) := by
  obtain ⟨cs, lo, hi', h, h1, h2⟩ := h
  refine ⟨cs.setIfInBounds i (.int .u8 x), lo, hi', ?_, by rw [List.length_set]; exact h1, fun j hj => ?_⟩
  · simp [World.setCell, Array.getElem?_modify, h]
  · rw [List.length_set] at hj
    have h3 := h2 j hj
    by_cases e : i = j
    · subst e
      have hlt : i < cs.size := (Array.getElem?_eq_some_iff.1 h3).1
      simp [hlt, hx, c8]
    · rw [Array.getElem?_setIfInBounds_ne e, h3, List.getElem_set_ne e]
theorem Byt.str {P : Program} (h : Byt w g t l) (src dst : TypeId) (cap : Nat) (hs : P.underlying src = some (.slice t)) (he : P.underlying t = some (.int .u8)) (hd : P.underlying dst = some .string) (n : Nat) (hn : l.length = n) :
    (convert src dst (.slice (some ⟨g, 0, none⟩) n cap)).run P w = .ok (.string ⟨l.toArray⟩) w := by
  subst hn
  refine run_convert_bytes_back w src dst t ⟨g, 0, none⟩ cap l hs he hd fun j hj => ?_
  have e : (⟨g, 0, none⟩ : Addr).add j = ⟨g, j, none⟩ := by unfold Addr.add; split <;> simp_all
  rw [e]
  exact h.cell j hj
/-- A string's bytes in a new block. -/
def bytesOf (w : World) (e : TypeId) (s : ByteArray) : World := w.drew.alloc (.cells (bytesRow s (grownCap w s.size 0 e)) e ((bytesRow s (grownCap w s.size 0 e)).size, (bytesRow s (grownCap w s.size 0 e)).size + 1))
theorem run_bytes {P : Program} (w : World) (src dst e : TypeId) (s : ByteArray) (hs : P.underlying src = some .string) (hd : P.underlying dst = some (.slice e)) (he : P.underlying e = some (.int .u8)) :
    (convert src dst (.string s)).run P w = .ok (.slice (some ⟨w.heap.size, 0, none⟩) s.size (grownCap w s.size 0 e)) (bytesOf w e s) := run_bytes_of_string w src dst e s hs hd he
theorem bytesOf_grow (w : World) (e : TypeId) (s : ByteArray) : w.grownBy (bytesOf w e s) none := grow_none (grow_drawn (grow_refl w none)) (World.grownBy_alloc _ _ _)
theorem bytesOf_byt (w : World) (e : TypeId) (s : ByteArray) : Byt (bytesOf w e s) w.heap.size e s.data.toList := by
  refine ⟨bytesRow s (grownCap w s.size 0 e), _, _, heap_alloc_new w.drew _, ?_, fun j hj => ?_⟩
  · rw [Array.length_toList]
    unfold bytesRow
    simp
  · rw [Array.length_toList] at hj
    exact bytesRow_at s _ j hj
end
theorem madeCells_one (z : Value) (n : Nat) (hz : z.cells = #[z]) : madeCells z.cells n = (List.replicate n z).toArray := by
  rw [hz]
  apply Array.ext
  · rw [size_madeCells]; simp
  · intro i h1 h2
    simp [madeCells, Nat.mod_one]
theorem run_make_one {P : Program} (t e : TypeId) (i : TypeInfo) (z : Value) (b : Nat) (ht : P.underlying t = some (.slice e)) (hi : P.info? e = some i) (hz : i.zero = some z) (hone : z.cells = #[z]) (hs : i.size = 1) (hb : i.bytes = b)
    (kl kc : IntKind) (n c : Nat) (hnc : n ≤ c) (hbytes : b * c ≤ 281474976710656) (h63 : c ≤ 9223372036854775807) (w : World) :
    (Instr.makeSlice t (.int kl (n : Int)) (.int kc (c : Int))).run P w = .ok (.slice (some ⟨w.heap.size, 0, none⟩) n c) (w.alloc (.cells (List.replicate c z).toArray e)) := by
  have hb' : (i.bytes : Int) * (c : Int) ≤ 281474976710656 := by
    have h : ((i.bytes * c : Nat) : Int) ≤ 281474976710656 := by rw [hb]; omega
    rwa [Int.natCast_mul] at h
  have hr := run_make (P := P) w t e i z ht hi hz kl kc n c (by omega) (by omega) hb' (by omega)
  simp only [Int.toNat_natCast] at hr
  rw [hs, Nat.mul_one, madeCells_one z c hone] at hr
  exact hr
theorem set_c8 (l : List UInt8) (k : Nat) (v : UInt8) (x : Int) (hx : x = (v.toNat : Int)) : (l.map c8).set k (.int .u8 x) = (l.set k v).map c8 := by
  rw [hx, List.map_set]; rfl
theorem getD_c8 (l : List UInt8) (k : Nat) (hk : k < l.length) : (l.map c8).getD k undef = .int .u8 ((l.getD k 0).toNat : Int) := by
  simp [List.getD, List.getElem?_eq_getElem hk, c8]
theorem replicate_c8 (n : Nat) : List.replicate n (Value.int .u8 0) = (List.replicate n (0 : UInt8)).map c8 := by
  rw [List.map_replicate]; rfl
theorem byte_get (s : ByteArray) (k : Nat) (hk : k < s.size) : s.data.toList.getD k 0 = s[k] := by
  have : k < s.data.toList.length := by rw [Array.length_toList]; exact hk
  rw [List.getD, List.getElem?_eq_getElem this]; rfl
end Go.Proofs.YtphljjgjpkdpmaaGreatDoor
/- Steps of a region that draws its order: append of a row, a call by its contract. -/
namespace Go.Proofs.YtphljjgjpkdpmaaGreatDoor
open Go.RowKit
set_option linter.unusedVariables false
section
variable {P : Program} {w : World} {ops : Array Oper} {o : Oper} {a : Act} {K : Act → World → Prop} {Q : Exit → Act → World → Prop} {E : Prop}
theorem step_append_row (s x : Operand) (t : TypeId)
    (ho : o.op = .call { callee := .builtin .append, args := #[s, x], argTypes := #[t, t] })
    (e : TypeId) (i : TypeInfo) (z : Value) (bytes : Nat) (ht : P.underlying t = some (.slice e)) (hi : P.info? e = some i) (hz : i.zero = some z)
    (hsize : i.size = 1) (hby : i.bytes = bytes) (hzs : z.cells.size = 1)
    (v : Value) (n : Nat) (xs : List Value) (hs : a.eval s = v) (hown : w.ownsRow 0 e 1 v n xs)
    (vs : Value) (news : List Value) (hx : a.eval x = vs) (hr : RowAt w vs news) (h1 : ∀ u ∈ news, u.oneCell' = true)
    (h63 : n + news.length ≤ maxLen) (hbytes : (n + news.length) * bytes ≤ 140737488355328) (hw : Region.wanted o (yielded ops a.tmps) = true)
    (h : ∀ v' w', w'.ownsRow 0 e 1 v' (n + news.length) (xs ++ news) → w.grownBy w' v.ownBlock → Moved w v v' → K (a.put o.dst v') w') : if Region.wanted o (yielded ops a.tmps) = true then Oper.wp P o a w K Q else E := by
  rw [if_pos hw]
  obtain ⟨v', w', hrun, h2, h3, h4⟩ := run_append_row (P := P) w t o.type e i z bytes ht hi hz hsize hby hzs v n xs hown vs news hr h1 h63 hbytes
  unfold Oper.wp execOp
  simp only [ho, resolve, invoke, builtin, Sem.run_bind, Sem.run_pure, Result.andThen_ok, List.map_toArray, List.map_cons, List.map_nil, hs, hx, hrun]
  exact h v' w' h2 h3 h4
theorem step_wanted (hw : Region.wanted o (yielded ops a.tmps) = true) (h : Oper.wp P o a w K Q) : if Region.wanted o (yielded ops a.tmps) = true then Oper.wp P o a w K Q else E := by
  rw [if_pos hw]; exact h
theorem step_call {f : FuncId} {args : Array Value} (hw : Region.wanted o (yielded ops a.tmps) = true) (ho : (execOp a.eval o).run P w = .ok (.enter f args) w) {R : Ending → World → Prop} (hc : Calls P f args w R)
    (h : ∀ e w', R e w' → ∃ u, e = .returned u ∧ K (a.put o.dst u) w') : if Region.wanted o (yielded ops a.tmps) = true then Oper.wp P o a w K Q else E := by
  rw [if_pos hw]
  unfold Oper.wp
  rw [ho]
  exact hc.mono fun e w' hr => by
    obtain ⟨u, rfl, hk⟩ := h e w' hr
    exact hk
end
end Go.Proofs.YtphljjgjpkdpmaaGreatDoor
