/- Stage 3: the last blocks of a message. -/
import Derived.Test.YtgcdfoadegojcaaDoorShE
import Derived.Lib.BufferWrite
namespace Go.Proofs.YtgcdfoadegojcaaDoor
open Go.RowKit
set_option linter.unusedVariables false
section
variable {P : Program} (w : World)
theorem wpList_copy_str {ops : Array Oper} {rest : List Oper} {o : Oper} {a : Act} {Q : Exit → Act → World → Prop} (hgd : o.guard = none) (d x : Operand) (dT sT : TypeId)
    (ho : o.op = .call { callee := .builtin .copy, args := #[d, x], argTypes := #[dT, sT] }) (elem : TypeId) (g q dLen dCap : Nat) (s : ByteArray) (cur : Array Value) (t : TypeId)
    (hd : a.eval d = .slice (some ⟨g, q, none⟩) dLen dCap) (hx : a.eval x = .string s)
    (hu : P.underlying dT = some (.slice elem)) (hs : (P.info? elem).map (·.size) = some 1) (hg : w.heap[g]? = some (.cells cur t (0, 0))) (hle : s.size ≤ dLen) (hfit : q + s.size ≤ cur.size) (R : List Value) (hR : cur.toList.take q ++ Lib.byteCells s.data.toList ++ cur.toList.drop (q + s.size) = R)
    (h : wpList P ops Q rest (a.put o.dst (goInt s.size)) (w.setRow g R.toArray)) : wpList P ops Q (o :: rest) a w := by
  refine wpList_plain hgd fun K hK => ?_
  unfold Oper.wp execOp
  simp only [ho, resolve, invoke, builtin, Sem.run_bind, Sem.run_pure, Result.andThen_ok, List.map_toArray, List.map_cons, List.map_nil, hd, hx, Lib.run_copy_row_string w dT sT o.type elem g q dLen dCap s cur t hu hs hg hle hfit, hR]
  exact hK _ _ h
end
def endLen (left : ByteArray) : Nat := if 64 < left.size + 9 then 128 else 64
def endN (n k : Nat) : UInt8 := UInt8.ofNat (n * 8 / 2 ^ (8 * k))
/-- The last bytes, when k bytes of the number of bits are there. -/
def endC (left : ByteArray) (n : Nat) : Nat → List UInt8
  | 0 => left.data.toList ++ 128 :: List.replicate (127 - left.size) 0
  | k + 1 => (endC left n k).set (endLen left - 1 - k) (endN n k)
theorem endC_len (left : ByteArray) (n : Nat) (hl : left.size < 64) : ∀ k, (endC left n k).length = 128
  | 0 => by rw [endC, List.length_append, List.length_cons, List.length_replicate, show left.data.toList.length = left.size by rw [Array.length_toList]; rfl]; omega
  | k + 1 => by rw [endC, List.length_set, endC_len left n hl k]
def endS (left : ByteArray) (n : Nat) : ByteArray := ⟨((endC left n 8).take (endLen left)).toArray⟩
def z128 : List UInt8 := List.replicate 128 0
theorem endC_zero (left : ByteArray) (n : Nat) (hl : left.size < 64) : ((z128.map c8).take 0 ++ Lib.byteCells left.data.toList ++ (z128.map c8).drop (0 + left.size)).set left.size (c8 128) = (endC left n 0).map c8 := by
  have e : left.data.toList.length = left.size := by rw [Array.length_toList]; rfl
  have e2 : Lib.byteCells left.data.toList = left.data.toList.map c8 := rfl
  rw [e2, List.take_zero, List.nil_append, Nat.zero_add, ← List.map_drop, ← List.map_append, ← List.map_set]
  congr 1
  rw [endC, List.set_append_right _ _ (by omega), e, Nat.sub_self]
  congr 1
  unfold z128
  rw [List.drop_replicate, show 128 - left.size = (127 - left.size) + 1 by omega, List.replicate_succ]
  rfl
theorem endN_val (n k : Nat) : (n : Int) * 8 / 2 ^ (8 * k) % 256 = ((endN n k).toNat : Int) := by
  unfold endN
  rw [UInt8.toNat_ofNat']
  obtain ⟨p, hp⟩ : ∃ p : Nat, p = 2 ^ (8 * k) := ⟨_, rfl⟩
  have h1 : ((2 : Int) ^ (8 * k)) = (p : Int) := by rw [hp]; simp
  rw [h1, ← hp, show ((n : Int) * 8) = ((n * 8 : Nat) : Int) by omega, ← Int.natCast_ediv]
  omega
theorem blk_take {P : Program} {w : World} {g : Nat} {T t : TypeId} {l : List UInt8} (h : Blk w g T (l.map c8)) (src dst : TypeId) (cap : Nat) (hs : P.underlying src = some (.slice t)) (he : P.underlying t = some (.int .u8)) (hd : P.underlying dst = some .string) (n : Nat) (hn : n ≤ l.length) :
    (convert src dst (.slice (some ⟨g, 0, none⟩) n cap)).run P w = .ok (.string ⟨(l.take n).toArray⟩) w := by
  have hl : (l.take n).length = n := by rw [List.length_take]; omega
  have hb := run_convert_bytes_back (P := P) w src dst t ⟨g, 0, none⟩ cap (l.take n) hs he hd fun j hj => by
    have e : (⟨g, 0, none⟩ : Addr).add j = ⟨g, j, none⟩ := by unfold Addr.add; split <;> simp_all
    have hj2 : j < l.length := by omega
    rw [e, h.cell j (by rw [List.length_map]; exact hj2), getD_c8 l j hj2, List.getElem_take]
    rw [List.getD, List.getElem?_eq_getElem hj2]; rfl
  rw [hl] at hb
  exact hb
theorem zero128 : ∀ W : World, (zeroValue 91).run Tryd.prog W = .ok (.agg (z128.map c8).toArray) W := fun W => by kernel_rfl
set_option maxRecDepth 100000 in
set_option maxHeartbeats 2000000 in
theorem ending_any (s : ByteArray) (n : Nat) (w : World) (hs : s.size < 64) (hn : n ≤ 1000000000000) :
    Calls Tryd.prog 33 #[.string s, .int .i64 n] w fun e w' => e = .returned (.string (endS s n)) ∧ w.grownBy w' none := by
  have hsi : (s.size : Int) < 64 := by omega
  have hni : (n : Int) ≤ 1000000000000 := by omega
  have hin : (Tryd.prog.info? 5).map (·.size) = some 1 := by kernel_rfl
  have hle : s.size ≤ 128 := by omega
  obtain ⟨Z, hZ⟩ : ∃ Z, (z128.map c8).toArray = Z := ⟨_, rfl⟩
  have hzv : ∀ W : World, (zeroValue 91).run Tryd.prog W = .ok (.agg Z) W := fun W => by
    rw [← hZ]; exact zero128 W
  have b0 : (w.alloc (.cells Z 91)).heap[w.heap.size]? = some (.cells Z 91 (0, 0)) := heap_alloc_new _ _
  have hfit : 0 + s.size ≤ Z.size := by rw [← hZ, List.size_toArray, List.length_map]; show 0 + s.size ≤ 128; omega
  have HIN := Lib.hid hin
  have HLE := Lib.hid hle
  have B0 := Lib.hid b0
  have HFIT := Lib.hid hfit
  clear hin hle b0 hfit
  obtain ⟨R, hR⟩ : ∃ R, Z.toList.take 0 ++ Lib.byteCells s.data.toList ++ Z.toList.drop (0 + s.size) = R := ⟨_, rfl⟩
  have hR0 : R.set s.size (c8 128) = (endC s n 0).map c8 := by rw [← hR, ← hZ]; exact endC_zero s n hs
  have hRl : R.length = 128 := by
    have := congrArg List.length hR0
    rw [List.length_set, List.length_map, endC_len s n hs] at this
    exact this
  have HR := Lib.hid hR
  have HR0 := Lib.hid hR0
  have hlen : endLen s = 64 ∨ endLen s = 128 := by unfold endLen; split <;> simp
  have hdec : decide ((64 : Int) < (s.size : Int) + 1 + 8) = decide (64 < s.size + 9) := by
    rw [decide_eq_decide]; omega
  obtain ⟨E, hE⟩ : ∃ E, E = endLen s := ⟨_, rfl⟩
  have hE2 : (E = 128 ∧ decide ((64 : Int) < (s.size : Int) + 1 + 8) = true) ∨ (E = 64 ∧ decide ((64 : Int) < (s.size : Int) + 1 + 8) = false) := by
    rw [hE]
    unfold endLen
    by_cases hh : 64 < s.size + 9
    · rw [if_pos hh]; exact .inl ⟨rfl, decide_eq_true (by omega)⟩
    · rw [if_neg hh]; exact .inr ⟨rfl, decide_eq_false (by omega)⟩
  have HEC := Lib.hid (endC_len s n hs)
  have HE := Lib.hid hE
  clear hR hR0 hlen hdec hE hZ
  rcases hE2 with ⟨rfl, hd⟩ | ⟨rfl, hd⟩
  all_goals
    go_enter Tryd.func33, Tryd.ntmps33
    go_upto_region 3 with (refine wpList_copy_str _ rfl (.tmp 9) (.tmp 10) 52 9 (by with_reducible rfl) 5 w.heap.size 0 128 128 s Z 91 rfl rfl Tryd.underlying52 HIN.out B0.out HLE.out HFIT.out R HR.out ?_)
    obtain ⟨w1, hw1⟩ : ∃ w1, (w.alloc (.cells Z 91)).setRow w.heap.size R.toArray = w1 := ⟨_, rfl⟩
    refine wp_at (w' := w1) hw1 ?_
    obtain ⟨g, hg⟩ : ∃ g, w.heap.size = g := ⟨_, rfl⟩
    have b1 : Blk w1 g 91 R := by
      rw [← hg, ← hw1]; exact setRow_heap _ _ Z R.toArray _ _ B0.out
    have G1 : w.grownBy w1 none := by
      rw [← hw1]; exact grow_setrow (World.grownBy_alloc _ _ _) (Nat.le_refl _) _
    have hg0 : w.heap.size ≤ g := by omega
    rw [hg]
    have f1 := b1.frozen s.size
    have k1 := b1.cell s.size (by rw [hRl]; omega)
    have b2 := b1.set_ s.size (c8 128)
    rw [HR0.out] at b2
    have hsz : (s.size : Int) < 128 := by omega
    have HB2 := Lib.hid b2
    have G2 := Lib.hid (grow_setnew (a := ⟨g, s.size, none⟩) G1 hg0 (c8 128))
    clear b2 hw1 hg G1 b1
    go_wp2
    go_loopw [23] (fun i wr => ∃ k : Nat, k ≤ 8 ∧ i = .int .i64 k ∧ Blk wr g 91 ((endC s n k).map c8) ∧ w.grownBy wr none) (fun i _ => 8 - (intOf i).toNat)
    case atStart => exact ⟨0, Nat.zero_le _, rfl, HB2.out, G2.out⟩
    case round =>
      clear HB2 G2
      obtain ⟨k, hk, rfl, c1, hgw⟩ := hrel
      by_cases hlt : k < 8
      · have hki : (k : Int) < 8 := by omega
        have q1 : ((127 : Int) - k).toNat = 127 - k := by omega
        have q2 : (0 : Int) ≤ (127 : Int) - k := by omega
        have q3 : (127 : Int) - k < 128 := by omega
        have q4 : ((63 : Int) - k).toNat = 63 - k := by omega
        have q5 : (0 : Int) ≤ (63 : Int) - k := by omega
        have q6 : (63 : Int) - k < 128 := by omega
        have q7 : (8 * (k : Int)).toNat = 8 * k := by omega
        have q8 : (0 : Int) ≤ 8 * (k : Int) := by omega
        have q9 : (k : Int) ≤ 127 := by omega
        have q10 : (k : Int) ≤ 63 := by omega
        have f1 := c1.frozen (127 - k)
        have f2 := c1.frozen (63 - k)
        have k1 := c1.cell (127 - k) (by rw [List.length_map, HEC.out k]; omega)
        have k2 := c1.cell (63 - k) (by rw [List.length_map, HEC.out k]; omega)
        go_wp2
        go_roundw
        case rel =>
          have hset : ∀ i, i = endLen s - 1 - k → Blk (wr.setCell ⟨g, i, none⟩ (.int .u8 ((n : Int) * 8 / 2 ^ (8 * k) % 256))) g 91 ((endC s n (k + 1)).map c8) := by
            intro i hi
            have h := c1.set_ i (.int .u8 ((n : Int) * 8 / 2 ^ (8 * k) % 256))
            rw [set_c8 _ i (endN n k) _ (endN_val n k), hi] at h
            rw [hi]
            exact h
          exact ⟨k + 1, by omega, by go_num, hset _ (by rw [← HE.out]), grow_setnew (a := ⟨g, _, none⟩) hgw hg0 _⟩
        case measure => simp [intOf]; omega
      · have hki : (8 : Int) ≤ (k : Int) := by omega
        have c2 : Blk wr g 91 ((endC s n 8).map c8) := by
          have e : k = 8 := by omega
          rw [e] at c1; exact c1
        have hcv := fun E hE => blk_take c2 52 9 128 Tryd.underlying52 Tryd.underlying5 Tryd.underlying9 E hE
        have hcv1 := hcv 128 (by rw [HEC.out 8]; exact Nat.le_refl _)
        have hcv2 := hcv 64 (by rw [HEC.out 8]; omega)
        clear c1 hcv
        go_wp2
        go_ret
        exact ⟨by unfold endS; rw [← HE.out]; rfl, hgw⟩
end Go.Proofs.YtgcdfoadegojcaaDoor
