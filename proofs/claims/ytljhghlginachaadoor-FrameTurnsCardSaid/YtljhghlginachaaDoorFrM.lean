/- Stage 4: frames, as plain lists: what opens, what doesn't. -/
import Derived.Test.YtljhghlginachaaDoorFrG
import Derived.Test.YtljhghlginachaaDoorPkM
namespace Go.Proofs.YtljhghlginachaaDoor
open Go.RowKit
set_option linter.unusedVariables false
/-- A list of bytes as a string. -/
def bs (l : List UInt8) : ByteArray := ⟨l.toArray⟩
theorem bs_size (l : List UInt8) : (bs l).size = l.length := by show l.toArray.size = _; simp
theorem bs_list (l : List UInt8) : (bs l).data.toList = l := by simp [bs]
theorem bs_self (s : ByteArray) : bs s.data.toList = s := by obtain ⟨⟨l⟩⟩ := s; rfl
theorem bs_inj {x y : List UInt8} (h : bs x = bs y) : x = y := by rw [← bs_list x, h, bs_list]
theorem extract_bs (l : List UInt8) (a b : Nat) : (bs l).extract a b = bs ((l.drop a).take (b - a)) := ByteArray.extract_mk l a b
theorem len_bs (s : ByteArray) : s.data.toList.length = s.size := by rw [Array.length_toList]; rfl
theorem sumB_len (x : Nat) : (sumB x).length = 4 := rfl
theorem frB_size (p : ByteArray) : (frB p).length = (numB (p.size : Int)).length + 4 + p.size := by
  unfold frB; rw [List.length_append, List.length_append, sumB_len, len_bs]; omega
/-- A frame stands first. -/
def opB (s : ByteArray) : Bool := decide (lenOk s) && (((nextS s).extract 0 4).toList == (⟨(sumB (crcN (payB s))).toArray⟩ : ByteArray).toList)
theorem open_app (p : ByteArray) (hp : p.size ≤ 1048576) (more : List UInt8) : opB (bs (frB p ++ more)) = true ∧ payB (bs (frB p ++ more)) = p ∧ behB (bs (frB p ++ more)) = bs more := by
  have hn : -9223372036854775808 ≤ (p.size : Int) ∧ (p.size : Int) ≤ 9223372036854775807 := by omega
  have e : frB p ++ more = numB (p.size : Int) ++ (sumB (crcN p) ++ p.data.toList ++ more) := by unfold frB; simp only [List.append_assoc]
  have hg : getN (bs (frB p ++ more)) = ((p.size : Int), (numB (p.size : Int)).length) := by rw [e]; exact getN_back hn _
  have hx : nextS (bs (frB p ++ more)) = bs (sumB (crcN p) ++ p.data.toList ++ more) := by rw [e]; exact nextS_back hn _
  have hpn : payN (bs (frB p ++ more)) = p.size := by unfold payN; rw [hg]; rfl
  have h4 : (sumB (crcN p)).length = 4 := rfl
  have hpay : payB (bs (frB p ++ more)) = p := by
    unfold payB
    rw [hx, hpn, extract_bs, List.append_assoc, List.drop_append_of_le_length (by rw [h4]; omega), show (sumB (crcN p)).drop 4 = [] from rfl, List.nil_append, Nat.add_sub_cancel_left, List.take_left' (len_bs p), bs_self]
  have hbeh : behB (bs (frB p ++ more)) = bs more := by
    unfold behB
    rw [hx, hpn, extract_bs, bs_size, List.drop_left' (by rw [List.length_append, h4, len_bs]), List.take_of_length_le]
    rw [List.length_append, List.length_append, h4, len_bs]; omega
  refine ⟨?_, hpay, hbeh⟩
  unfold opB
  have hl : lenOk (bs (frB p ++ more)) := by
    unfold lenOk nextBad
    rw [hg, hx, bs_size, List.length_append, List.length_append, h4, len_bs]
    have := numB_pos (p.size : Int)
    refine ⟨?_, by simp only; omega, by simp only; omega, by simp only; omega⟩
    simp only
    rw [beq_eq_false_iff_ne]; omega
  rw [decide_eq_true hl, hpay, hx, extract_bs]
  simp only [List.drop_zero, Nat.sub_zero, Bool.true_and]
  rw [List.append_assoc, List.take_left' h4]
  show ((bs _).toList == (bs _).toList) = true
  rw [beq_self_eq_true]
theorem beq_bytes {a b : ByteArray} : (a.toList == b.toList) = true ↔ a = b := by
  constructor
  · intro h
    have h2 : a.toList = b.toList := by simpa using h
    rw [ByteArray.toList_eq, ByteArray.toList_eq] at h2
    exact ByteArray.ext (Array.ext' h2)
  · intro h; rw [h, beq_self_eq_true]
/-- What lies where the length says. -/
theorem len_sound {s : ByteArray} (h : lenOk s) : ∃ a b : List UInt8, a.length = 4 ∧ ((payB s).size : Int) = (getN s).1 ∧ (payB s).size ≤ 1048576 ∧ (nextS s).extract 0 4 = bs a ∧ s.data.toList = numB ((payB s).size : Int) ++ (a ++ ((payB s).data.toList ++ b)) ∧ behB s = bs b ∧ (getN s).2 = (numB ((payB s).size : Int)).length := by
  obtain ⟨h0, h1, h2, h3⟩ := h
  have hne : (getN s).2 ≠ 0 := by
    intro e
    unfold nextBad at h0
    rw [e] at h0
    cases h0
  obtain ⟨hs1, hs2⟩ := getN_sound hne
  have hx : nextS s = bs (s.data.toList.drop (getN s).2) := nextS_list s
  obtain ⟨r, hr⟩ : ∃ r, r = s.data.toList.drop (getN s).2 := ⟨_, rfl⟩
  rw [← hr] at hx hs1
  rw [hx, bs_size] at h3
  obtain ⟨n, hn⟩ : ∃ n : Nat, (n : Int) = (getN s).1 := ⟨(getN s).1.toNat, by omega⟩
  have hpn : payN s = n := by unfold payN; omega
  have hpay : payB s = bs ((r.drop 4).take n) := by
    unfold payB
    rw [hx, hpn, extract_bs, Nat.add_sub_cancel_left]
  have hps : (payB s).size = n := by rw [hpay, bs_size, List.length_take, List.length_drop]; omega
  refine ⟨r.take 4, r.drop (4 + n), by rw [List.length_take]; omega, by rw [hps]; exact hn, by omega, ?_, ?_, ?_, ?_⟩
  · rw [hx, extract_bs, List.drop_zero]
  · rw [hps, hn, hpay, bs_list]
    conv => lhs; rw [hs1]
    congr 1
    rw [← List.drop_drop, List.take_append_drop, List.take_append_drop]
  · unfold behB
    rw [hx, hpn, extract_bs, bs_size, List.take_of_length_le]
    rw [List.length_drop]; omega
  · rw [hps, hn]; exact hs2
theorem open_sound {s : ByteArray} (h : opB s = true) : s.data.toList = frB (payB s) ++ (behB s).data.toList ∧ (payB s).size ≤ 1048576 := by
  unfold opB at h
  rw [Bool.and_eq_true] at h
  obtain ⟨hl, hsum⟩ := h
  obtain ⟨a, b, ha, hp1, hp2, hx, hs, hb, _⟩ := len_sound (of_decide_eq_true hl)
  refine ⟨?_, hp2⟩
  have e := beq_bytes.1 hsum
  rw [hx] at e
  have ea : a = sumB (crcN (payB s)) := bs_inj e
  rw [hs, hb, bs_list, ea]
  unfold frB
  simp only [List.append_assoc]
theorem frB_inj {p q : ByteArray} {x y : List UInt8} (hp : p.size ≤ 1048576) (hq : q.size ≤ 1048576) (h : frB p ++ x = frB q ++ y) : p = q ∧ x = y := by
  obtain ⟨_, h1, h2⟩ := open_app p hp x
  obtain ⟨_, h3, h4⟩ := open_app q hq y
  rw [h] at h1 h2
  exact ⟨h1.symm.trans h3, bs_inj (h2.symm.trans h4)⟩
theorem open_cut (p : ByteArray) (hp : p.size ≤ 1048576) (k : Nat) (hk : k < (frB p).length) : opB (bs ((frB p).take k)) = false := by
  by_cases h : opB (bs ((frB p).take k)) = true
  · exfalso
    obtain ⟨h1, h2⟩ := open_sound h
    rw [bs_list] at h1
    have h3 : frB p ++ [] = frB (payB (bs ((frB p).take k))) ++ ((behB (bs ((frB p).take k))).data.toList ++ (frB p).drop k) := by
      rw [← List.append_assoc, ← h1, List.take_append_drop, List.append_nil]
    obtain ⟨_, h4⟩ := frB_inj hp h2 h3
    have h5 : ((frB p).drop k).length = 0 := by
      have := congrArg List.length h4
      rw [List.length_append] at this
      simp only [List.length_nil] at this
      omega
    rw [List.length_drop] at h5
    omega
  · simpa using h
theorem open_less {s : ByteArray} (h : opB s = true) : (behB s).size + 5 ≤ s.size := by
  obtain ⟨h1, _⟩ := open_sound h
  have h2 := congrArg List.length h1
  rw [List.length_append, len_bs, len_bs, frB_size] at h2
  have := numB_pos ((payB s).size : Int)
  omega
/-- The payloads of the frames that stand there, and what is left behind them. -/
inductive Scans : ByteArray → List ByteArray → ByteArray → Prop
  | stop (s : ByteArray) : opB s = false → Scans s [] s
  | go (s : ByteArray) (l : List ByteArray) (c : ByteArray) : opB s = true → Scans (behB s) l c → Scans s (payB s :: l) c
theorem Scans.same {s c d : ByteArray} {l m : List ByteArray} (h : Scans s l c) (k : Scans s m d) : l = m ∧ c = d := by
  induction h generalizing m d with
  | stop s h =>
    cases k with
    | stop => exact ⟨rfl, rfl⟩
    | go _ _ _ h2 => rw [h] at h2; cases h2
  | go s l c h _ ih =>
    cases k with
    | stop _ h2 => rw [h] at h2; cases h2
    | go _ _ _ h2 k2 =>
      obtain ⟨e1, e2⟩ := ih k2
      exact ⟨by rw [e1], e2⟩
theorem Scans.ahead {more : List UInt8} {m : List ByteArray} {c : ByteArray} (h : Scans (bs more) m c) : ∀ l : List ByteArray, (∀ s ∈ l, s.size ≤ 1048576) → Scans (bs (framesB l ++ more)) (l ++ m) c
  | [], _ => by simpa [framesB] using h
  | p :: l, hl => by
    have e : framesB (p :: l) ++ more = frB p ++ (framesB l ++ more) := by unfold framesB; simp only [List.flatMap_cons, List.append_assoc]
    obtain ⟨h1, h2, h3⟩ := open_app p (hl p (List.mem_cons_self ..)) (framesB l ++ more)
    have ih := Scans.ahead h l (fun s hs => hl s (List.mem_cons_of_mem _ hs))
    rw [← h3] at ih
    have := Scans.go _ _ _ h1 ih
    rw [h2] at this
    rw [e]
    exact this
end Go.Proofs.YtljhghlginachaaDoor
