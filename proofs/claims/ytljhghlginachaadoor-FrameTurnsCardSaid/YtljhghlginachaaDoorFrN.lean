/- Stage 4: frames that are cut off; frames of which a bit has turned: plain facts. -/
import Derived.Test.YtljhghlginachaaDoorFrJ
import Derived.Test.YtljhghlginachaaDoorCrM
namespace Go.Proofs.YtljhghlginachaaDoor
open Go.RowKit
set_option linter.unusedVariables false
theorem frames_app (a b : List ByteArray) : framesB (a ++ b) = framesB a ++ framesB b := by unfold framesB; rw [List.flatMap_append]
theorem cuts_math (l : List ByteArray) (hs : ∀ s ∈ l, s.size ≤ 1048576) (cut k : Nat) (hk : k ≤ l.length) (hto : (framesB (l.take k)).length ≤ cut) (hcut : cut ≤ (framesB l).length)
    (hend : ∀ h : k < l.length, cut < (framesB (l.take k)).length + (frB l[k]).length) : ∃ c, Scans (bs ((framesB l).take cut)) (l.take k) c ∧ c.size + (framesB (l.take k)).length = cut := by
  have e : framesB l = framesB (l.take k) ++ framesB (l.drop k) := by rw [← frames_app, List.take_append_drop]
  have e2 : (framesB l).take cut = framesB (l.take k) ++ (framesB (l.drop k)).take (cut - (framesB (l.take k)).length) := by
    conv => lhs; rw [e]
    rw [List.take_append, List.take_of_length_le hto]
  have hstop : ∃ m, Scans (bs m) [] (bs m) ∧ (framesB (l.drop k)).take (cut - (framesB (l.take k)).length) = m ∧ m.length + (framesB (l.take k)).length = cut := by
    refine ⟨_, .stop _ ?_, rfl, ?_⟩
    · by_cases hlt : k < l.length
      · have e3 : framesB (l.drop k) = frB l[k] ++ framesB (l.drop (k + 1)) := by
          rw [List.drop_eq_getElem_cons hlt]; unfold framesB; simp only [List.flatMap_cons]
        have h4 := hend hlt
        rw [e3, List.take_append_of_le_length (by omega)]
        exact open_cut _ (hs _ (List.getElem_mem hlt)) _ (by omega)
      · have e3 : framesB (l.drop k) = (frB ⟨#[]⟩).take 0 := by rw [List.drop_of_length_le (by omega)]; rfl
        rw [e3, List.take_zero, List.take_nil]
        exact open_cut ⟨#[]⟩ (by decide) 0 (by rw [frame_none]; decide)
    · have h5 := congrArg List.length e
      rw [List.length_append] at h5
      rw [List.length_take]; omega
  obtain ⟨m, h1, h2, h3⟩ := hstop
  refine ⟨bs m, ?_, by rw [bs_size]; exact h3⟩
  have := Scans.ahead h1 (l.take k) (fun s hs' => hs s (List.mem_of_mem_take hs'))
  rw [List.append_nil] at this
  rw [e2, h2]
  exact this
/-- One bit that is turned changes what is taken. -/
theorem takes_one (r : BitVec 32) (l l' : List UInt8) (b : Nat) (hb : b < 8 * l.length) (hl : l'.length = l.length) (h : ∀ j, bitAt l' j = (bitAt l j ^^ decide (j = b))) : takes r l' ≠ takes r l := by
  rw [takes_bits, takes_bits, hl]
  have e : foldBits r (bitAt l') (8 * l.length) = foldBits r (bitAt l) (8 * l.length) ^^^ foldBits 0#32 (fun j => decide (j = b)) (8 * l.length) := by
    rw [← foldBits_xor, BitVec.xor_zero]
    exact foldBits_congr _ _ _ _ fun j _ => h j
  rw [e]
  obtain ⟨z, hz⟩ : ∃ z, 8 * l.length = b + (1 + z) := ⟨8 * l.length - (b + 1), by omega⟩
  have e2 : foldBits 0#32 (fun j => decide (j = b)) (8 * l.length) = mvs z (mv 1#32) := by
    rw [hz, foldBits_add, foldBits_none 0#32 _ b (fun j hj => decide_eq_false (by omega)), mvs_zero, foldBits_add]
    rw [foldBits_none _ _ z (fun j hj => decide_eq_false (by omega))]
    congr 1
    show takeBit 0#32 (decide (b + 0 = b)) = _
    rw [decide_eq_true (by omega)]
    rfl
  rw [e2]
  intro hh
  have h0 : mvs z (mv 1#32) = 0#32 := by
    have h1 : ∀ y m : BitVec 32, y ^^^ m = y → m = 0#32 := by
      intro y m h2
      have h3 : y ^^^ (y ^^^ m) = y ^^^ y := by rw [h2]
      rwa [← BitVec.xor_assoc, BitVec.xor_self, BitVec.zero_xor] at h3
    exact h1 _ _ hh
  exact absurd (mv_inj (mvs_inj _ _ h0)) (by decide)
theorem sumB_inj {x y : Nat} (hx : x < 4294967296) (hy : y < 4294967296) (h : sumB x = sumB y) : x = y := by
  have key : ∀ a b : Nat, a.toUInt8 = b.toUInt8 → a % 256 = b % 256 := by
    intro a b h
    have := congrArg UInt8.toNat h
    simpa using this
  unfold sumB at h
  simp only [List.cons.injEq, and_true] at h
  obtain ⟨h1, h2, h3, h4⟩ := h
  have k1 := key _ _ h1
  have k2 := key _ _ h2
  have k3 := key _ _ h3
  have k4 := key _ _ h4
  omega
theorem crc_lt (p : ByteArray) : crcN p < 4294967296 := (more 0#32 p.data.toList).isLt
theorem xor_ne (a j : Nat) : a ^^^ 2 ^ j ≠ a := by
  intro h
  have h1 : a ^^^ (a ^^^ 2 ^ j) = a ^^^ a := by rw [h]
  rw [← Nat.xor_assoc, Nat.xor_self, Nat.zero_xor] at h1
  have := Nat.two_pow_pos j
  omega
theorem list_set_self_ne {l : List UInt8} {i : Nat} {v : UInt8} (hi : i < l.length) (hv : v ≠ l.getD i 0) : l.set i v ≠ l := by
  intro h
  apply hv
  have : (l.set i v).getD i 0 = v := by rw [List.getD, List.getElem?_set_self hi]; rfl
  rw [← this, h]
theorem turn_math (p : ByteArray) (hp : p.size ≤ 1048576) (b : Nat) (hb : b < 8 * (4 + p.size)) (v : UInt8) (hv : v.toNat = ((frB p).getD ((numB (p.size : Int)).length + b / 8) 0).toNat ^^^ 2 ^ (b % 8)) :
    opB (bs ((frB p).set ((numB (p.size : Int)).length + b / 8) v)) = false := by
  obtain ⟨N, hN⟩ : ∃ N, N = numB (p.size : Int) := ⟨_, rfl⟩
  rw [← hN] at hv ⊢
  obtain ⟨T, hT⟩ : ∃ T, T = sumB (crcN p) ++ p.data.toList := ⟨_, rfl⟩
  have hTl : T.length = 4 + p.size := by rw [hT, List.length_append, len_bs]; rfl
  have hfr : frB p = N ++ T := by rw [hN, hT]; rfl
  have hn : -9223372036854775808 ≤ (p.size : Int) ∧ (p.size : Int) ≤ 9223372036854775807 := by omega
  have hold : (frB p).getD (N.length + b / 8) 0 = T.getD (b / 8) 0 := by
    rw [hfr, List.getD, List.getElem?_append_right (Nat.le_add_right _ _), Nat.add_sub_cancel_left]; rfl
  rw [hold] at hv
  have hset : (frB p).set (N.length + b / 8) v = N ++ T.set (b / 8) v := by
    rw [hfr, List.set_append_right _ _ (Nat.le_add_right _ _), Nat.add_sub_cancel_left]
  rw [hset]
  by_cases h : opB (bs (N ++ T.set (b / 8) v)) = true
  · exfalso
    obtain ⟨h1, h2⟩ := open_sound h
    obtain ⟨q, hq⟩ : ∃ q, q = payB (bs (N ++ T.set (b / 8) v)) := ⟨_, rfl⟩
    obtain ⟨m, hm⟩ : ∃ m, m = (behB (bs (N ++ T.set (b / 8) v))).data.toList := ⟨_, rfl⟩
    rw [← hq] at h1 h2
    rw [← hm, bs_list] at h1
    have g1 : getN ⟨(numB (p.size : Int) ++ T.set (b / 8) v).toArray⟩ = _ := getN_back hn _
    have e1 : N ++ T.set (b / 8) v = numB (q.size : Int) ++ (sumB (crcN q) ++ q.data.toList ++ m) := by rw [h1]; unfold frB; simp only [List.append_assoc]
    have g2 : getN ⟨(numB (q.size : Int) ++ (sumB (crcN q) ++ q.data.toList ++ m)).toArray⟩ = _ := getN_back (by omega) _
    rw [← hN, e1, g2] at g1
    have hqs : q.size = p.size := by
      have := congrArg Prod.fst g1
      simp only at this; omega
    rw [hqs, ← hN, List.append_cancel_left_eq] at e1
    have hl := congrArg List.length e1
    have h4 : (sumB (crcN q)).length = 4 := rfl
    rw [List.length_set, List.length_append, List.length_append, hTl, h4, len_bs, hqs] at hl
    have hm0 : m = [] := List.eq_nil_of_length_eq_zero (by omega)
    rw [hm0, List.append_nil] at e1
    have hvne : v ≠ T.getD (b / 8) 0 := by
      intro e
      rw [← e] at hv
      exact xor_ne _ _ hv.symm
    by_cases h8 : b / 8 < 4
    · rw [hT, List.set_append_left _ _ (by rw [sumB_len]; omega)] at e1
      obtain ⟨e2, e3⟩ := List.append_inj e1 (by rw [List.length_set, sumB_len, sumB_len])
      have hqp : q = p := by rw [← bs_self q, ← bs_self p, e3]
      rw [hqp] at e2
      refine list_set_self_ne (by rw [sumB_len]; omega) ?_ e2
      rw [hT, List.getD, List.getElem?_append_left (by rw [sumB_len]; omega)] at hvne
      exact hvne
    · rw [hT, List.set_append_right _ _ (by rw [sumB_len]; omega), sumB_len] at e1
      obtain ⟨e2, e3⟩ := List.append_inj e1 (by rw [sumB_len, sumB_len])
      have hcr := sumB_inj (crc_lt p) (crc_lt q) e2
      have hlp := len_bs p
      have hb8 : (b - 32) / 8 = b / 8 - 4 := by omega
      have hv2 : v.toNat = (p.data.toList.getD ((b - 32) / 8) 0).toNat ^^^ 2 ^ ((b - 32) % 8) := by
        rw [hb8, show (b - 32) % 8 = b % 8 by omega, hv, hT, List.getD, List.getElem?_append_right (by rw [sumB_len]; omega), sumB_len]; rfl
      have hbt := bit_turned p.data.toList (b - 32) (by rw [hlp]; omega) v hv2
      have hne := takes_one (~~~ 0#32) p.data.toList q.data.toList (b - 32) (by rw [hlp]; omega) (by rw [len_bs, len_bs, hqs]) (fun j => by rw [← e3, ← hb8]; exact hbt j)
      apply hne
      have h5 : more 0#32 q.data.toList = more 0#32 p.data.toList := BitVec.eq_of_toNat_eq hcr.symm
      have h6 := congrArg (fun z => ~~~ z) h5
      simpa only [more, BitVec.not_not] using h6
  · simpa using h
end Go.Proofs.YtljhghlginachaaDoor
