/- Stage 3: the document's square roots. -/
import Derived.Test.YtgcdfoadegojcaaDoorShN
namespace Go.Proofs.YtgcdfoadegojcaaDoor
open Go.RowKit
set_option linter.unusedVariables false
/-- Is x times x at most p times 2^64, as the document's text has it? -/
def sqOk (p x : Nat) : Bool :=
  let hi := x / 4294967296
  let lo := x % 4294967296
  let top := hi * hi + hi * lo / 2147483648
  let mid := hi * lo * 2 % 4294967296 * 4294967296
  let rest := (lo * lo + mid) % 18446744073709551616
  let top2 := if rest < mid then top + 1 else top
  decide (top2 < p) || (decide (top2 = p) && decide (rest = 0))
/-- The root when k bits were tried. -/
def sqR (p : Nat) : Nat → Nat
  | 0 => 0
  | k + 1 => if sqOk p (sqR p k + 2 ^ (35 - k)) then sqR p k + 2 ^ (35 - k) else sqR p k
theorem sqR_lt (p : Nat) : ∀ k, k ≤ 36 → sqR p k + 2 ^ (36 - k) ≤ 2 ^ 36
  | 0, _ => by show 0 + _ ≤ _; omega
  | k + 1, h => by
    have ih := sqR_lt p k (by omega)
    have e : 2 ^ (36 - k) = 2 * 2 ^ (35 - k) := by rw [show 36 - k = (35 - k) + 1 by omega, Nat.pow_succ]; omega
    rw [show 36 - (k + 1) = 35 - k by omega]
    unfold sqR
    split <;> omega
/-- The root's bits behind the point. -/
def sqW (p : Nat) : Nat := sqR p 36 % 4294967296
theorem square_firsts : ∀ i, i < 8 → sqW (pr i) = firstL.getD i 0 := by decide +kernel
theorem sqR_yes {p k r B x : Nat} (hr : r = sqR p k) (hB : B = 2 ^ (35 - k)) (hx : x = r + B) (h : sqOk p x = true) : x = sqR p (k + 1) := by
  unfold sqR; rw [← hr, ← hB, ← hx, if_pos h]
theorem sqR_no {p k r B x : Nat} (hr : r = sqR p k) (hB : B = 2 ^ (35 - k)) (hx : x = r + B) (h : sqOk p x = false) : r = sqR p (k + 1) := by
  unfold sqR; rw [← hr, ← hB, ← hx, if_neg (by rw [h]; simp)]
theorem and32 (x : Nat) (hx : x < 18446744073709551616) : bits .and .u64 (x : Int) 4294967295 = ((x % 4294967296 : Nat) : Int) := by
  have h := u64_and_nat x 4294967295 hx (by omega)
  rw [show ((4294967295 : Nat) : Int) = 4294967295 from rfl] at h
  rw [h]
  congr 1
  exact Nat.and_two_pow_sub_one_eq_mod x 32
set_option maxRecDepth 100000 in
set_option maxHeartbeats 4000000 in
theorem square_any (p : Nat) (w : World) (hp : p ≤ 1000) :
    Calls Tryd.prog 35 #[.int .u64 p] w fun e w' => e = .returned (.int .u32 ((sqW p : Nat) : Int)) ∧ w = w' := by
  have hpi : (p : Int) ≤ 1000 := by omega
  go_enter Tryd.func35, Tryd.ntmps35
  go_wp2_with fail
  go_loop [3, 4] (fun r b => ∃ k : Nat, k ≤ 36 ∧ r = .int .u64 ((sqR p k : Nat) : Int) ∧ b = .int .i64 (35 - (k : Int))) (fun _ b => (intOf b + 1).toNat)
  case atStart => exact ⟨0, Nat.zero_le _, rfl, rfl⟩
  case round =>
    obtain ⟨k, hk, rfl, rfl⟩ := hrel
    have hlt := sqR_lt p k hk
    obtain ⟨r, hr⟩ : ∃ r, r = sqR p k := ⟨_, rfl⟩
    rw [← hr]
    rw [← hr] at hlt
    by_cases hk36 : k < 36
    · have hki : (k : Int) < 36 := by omega
      have b0 : (0 : Int) ≤ 35 - (k : Int) := by omega
      obtain ⟨B, hB⟩ : ∃ B, B = 2 ^ (35 - k) := ⟨_, rfl⟩
      obtain ⟨x, hx⟩ : ∃ x, x = r + B := ⟨_, rfl⟩
      have hB2 : 2 ^ (36 - k) = 2 * B := by rw [hB, show 36 - k = (35 - k) + 1 by omega, Nat.pow_succ]; omega
      have hB0 : 0 < B := by rw [hB]; exact Nat.pow_pos (by omega)
      have hx36 : x < 68719476736 := by rw [show (68719476736 : Nat) = 2 ^ 36 by decide]; omega
      have hB36 : B < 68719476736 := by omega
      have u64 : ∀ {z : Int}, 0 ≤ z → z < 18446744073709551616 → IntKind.u64.wrap z = z := fun h1 h2 => by rw [IntKind.wrap_u64]; omega
      have f1 : IntKind.u64.wrap ((2 : Int) ^ (35 - k)) = (B : Int) := by
        have e : ((2 : Int) ^ (35 - k)) = (B : Int) := by rw [hB]; push_cast; rfl
        rw [e]; exact u64 (by omega) (by omega)
      have f2 : IntKind.u64.wrap ((r : Int) + (B : Int)) = (x : Int) := by rw [u64 (by omega) (by omega)]; omega
      obtain ⟨hi, hhi⟩ : ∃ v, v = x / 4294967296 := ⟨_, rfl⟩
      obtain ⟨lo, hlo⟩ : ∃ v, v = x % 4294967296 := ⟨_, rfl⟩
      have bhi : hi < 16 := by omega
      have blo : lo < 4294967296 := by omega
      obtain ⟨hh, hhh⟩ : ∃ v, v = hi * hi := ⟨_, rfl⟩
      obtain ⟨hl, hhl⟩ : ∃ v, v = hi * lo := ⟨_, rfl⟩
      obtain ⟨ll, hll⟩ : ∃ v, v = lo * lo := ⟨_, rfl⟩
      have bhh : hh ≤ 225 := by rw [hhh]; exact Nat.mul_le_mul (show hi ≤ 15 by omega) (show hi ≤ 15 by omega)
      have bhl : hl ≤ 64424509440 := by rw [hhl]; exact Nat.le_trans (Nat.mul_le_mul (show hi ≤ 15 by omega) (show lo ≤ 4294967296 by omega)) (by decide)
      have bll : ll ≤ 18446744065119617025 := by rw [hll]; exact Nat.le_trans (Nat.mul_le_mul (show lo ≤ 4294967295 by omega) (show lo ≤ 4294967295 by omega)) (by decide)
      obtain ⟨q, hq⟩ : ∃ v, v = hl / 2147483648 := ⟨_, rfl⟩
      obtain ⟨top, htop⟩ : ∃ v, v = hh + q := ⟨_, rfl⟩
      obtain ⟨hl2, hhl2⟩ : ∃ v, v = hl * 2 := ⟨_, rfl⟩
      obtain ⟨m0, hm0⟩ : ∃ v, v = hl2 % 4294967296 := ⟨_, rfl⟩
      obtain ⟨mid, hmid⟩ : ∃ v, v = m0 * 4294967296 := ⟨_, rfl⟩
      obtain ⟨rest, hrest⟩ : ∃ v, v = (ll + mid) % 18446744073709551616 := ⟨_, rfl⟩
      obtain ⟨top1, htop1⟩ : ∃ v, v = top + 1 := ⟨_, rfl⟩
      have g1 : (x : Int) / 4294967296 = (hi : Int) := by omega
      have g2 : bits .and .u64 (x : Int) 4294967295 = (lo : Int) := by rw [hlo]; exact and32 x (by omega)
      have g3 : IntKind.u64.wrap ((hi : Int) * (hi : Int)) = (hh : Int) := by
        have e : (hi : Int) * (hi : Int) = (hh : Int) := by rw [hhh]; push_cast; rfl
        rw [e]; exact u64 (by omega) (by omega)
      have g4 : IntKind.u64.wrap ((hi : Int) * (lo : Int)) = (hl : Int) := by
        have e : (hi : Int) * (lo : Int) = (hl : Int) := by rw [hhl]; push_cast; rfl
        rw [e]; exact u64 (by omega) (by omega)
      have g10 : IntKind.u64.wrap ((lo : Int) * (lo : Int)) = (ll : Int) := by
        have e : (lo : Int) * (lo : Int) = (ll : Int) := by rw [hll]; push_cast; rfl
        rw [e]; exact u64 (by omega) (by omega)
      have g5 : (hl : Int) / 2147483648 = (q : Int) := by omega
      have g6 : IntKind.u64.wrap ((hh : Int) + (q : Int)) = (top : Int) := by rw [u64 (by omega) (by omega)]; omega
      have g7 : IntKind.u64.wrap ((hl : Int) * 2) = (hl2 : Int) := by rw [u64 (by omega) (by omega)]; omega
      have g8 : bits .and .u64 (hl2 : Int) 4294967295 = (m0 : Int) := by rw [hm0]; exact and32 hl2 (by omega)
      have g9 : IntKind.u64.wrap ((m0 : Int) * 4294967296) = (mid : Int) := by rw [u64 (by omega) (by omega)]; omega
      have g11 : IntKind.u64.wrap ((ll : Int) + (mid : Int)) = (rest : Int) := by rw [IntKind.wrap_u64]; omega
      have g12 : IntKind.u64.wrap ((top : Int) + 1) = (top1 : Int) := by rw [u64 (by omega) (by omega)]; omega
      have HSQ : Hid (sqOk p x = (decide ((if rest < mid then top1 else top) < p) || (decide ((if rest < mid then top1 else top) = p) && decide (rest = 0)))) := by
        show _ = _
        unfold sqOk
        simp only [← hhi, ← hlo, ← hhh, ← hhl, ← hll, ← hq, ← htop, ← hhl2, ← hm0, ← hmid, ← hrest, ← htop1]
      have HR := Lib.hid hr
      have HX := Lib.hid hx
      have HB := Lib.hid hB
      clear hr hx hB hlt hB2 u64 hhi hlo hhh hhl hll hq htop hhl2 hm0 hmid hrest htop1 bll bhl bhh blo bhi
      by_cases hc : rest < mid
      · have k0 : decide ((rest : Int) < (mid : Int)) = true := decide_eq_true (by omega)
        have HT : Hid ((if rest < mid then top1 else top) = top1) := by show _ = _; rw [if_pos hc]
        by_cases hT : top1 < p
        · have k1 : decide ((top1 : Int) < (p : Int)) = true := decide_eq_true (by omega)
          have HOK : Hid (sqOk p x = true) := by show _ = _; rw [HSQ.out, HT.out]; simp [*]
          go_wp2_with fail
          go_round
          case rel => exact ⟨k + 1, by omega, by rw [← sqR_yes HR.out HB.out HX.out HOK.out], by congr 1; omega⟩
          case measure => simp [intOf]; omega
        · have k1 : decide ((top1 : Int) < (p : Int)) = false := decide_eq_false (by omega)
          by_cases hE : top1 = p
          · have k2 : ((top1 : Int) == (p : Int)) = true := by simp; omega
            by_cases hZ : rest = 0
            · have k3 : ((rest : Int) == 0) = true := by simp; omega
              have HOK : Hid (sqOk p x = true) := by show _ = _; rw [HSQ.out, HT.out]; simp [*]
              go_wp2_with fail
              go_round
              case rel => exact ⟨k + 1, by omega, by rw [← sqR_yes HR.out HB.out HX.out HOK.out], by congr 1; omega⟩
              case measure => simp [intOf]; omega
            · have k3 : ((rest : Int) == 0) = false := by simp; omega
              have HOK : Hid (sqOk p x = false) := by show _ = _; rw [HSQ.out, HT.out]; simp [*]
              go_wp2_with fail
              go_round
              case rel => exact ⟨k + 1, by omega, by rw [← sqR_no HR.out HB.out HX.out HOK.out], by congr 1; omega⟩
              case measure => simp [intOf]; omega
          · have k2 : ((top1 : Int) == (p : Int)) = false := by simp; omega
            have HOK : Hid (sqOk p x = false) := by show _ = _; rw [HSQ.out, HT.out]; simp [*]
            go_wp2_with fail
            go_round
            case rel => exact ⟨k + 1, by omega, by rw [← sqR_no HR.out HB.out HX.out HOK.out], by congr 1; omega⟩
            case measure => simp [intOf]; omega
      · have k0 : decide ((rest : Int) < (mid : Int)) = false := decide_eq_false (by omega)
        have HT : Hid ((if rest < mid then top1 else top) = top) := by show _ = _; rw [if_neg hc]
        by_cases hT : top < p
        · have k1 : decide ((top : Int) < (p : Int)) = true := decide_eq_true (by omega)
          have HOK : Hid (sqOk p x = true) := by show _ = _; rw [HSQ.out, HT.out]; simp [*]
          go_wp2_with fail
          go_round
          case rel => exact ⟨k + 1, by omega, by rw [← sqR_yes HR.out HB.out HX.out HOK.out], by congr 1; omega⟩
          case measure => simp [intOf]; omega
        · have k1 : decide ((top : Int) < (p : Int)) = false := decide_eq_false (by omega)
          by_cases hE : top = p
          · have k2 : ((top : Int) == (p : Int)) = true := by simp; omega
            by_cases hZ : rest = 0
            · have k3 : ((rest : Int) == 0) = true := by simp; omega
              have HOK : Hid (sqOk p x = true) := by show _ = _; rw [HSQ.out, HT.out]; simp [*]
              go_wp2_with fail
              go_round
              case rel => exact ⟨k + 1, by omega, by rw [← sqR_yes HR.out HB.out HX.out HOK.out], by congr 1; omega⟩
              case measure => simp [intOf]; omega
            · have k3 : ((rest : Int) == 0) = false := by simp; omega
              have HOK : Hid (sqOk p x = false) := by show _ = _; rw [HSQ.out, HT.out]; simp [*]
              go_wp2_with fail
              go_round
              case rel => exact ⟨k + 1, by omega, by rw [← sqR_no HR.out HB.out HX.out HOK.out], by congr 1; omega⟩
              case measure => simp [intOf]; omega
          · have k2 : ((top : Int) == (p : Int)) = false := by simp; omega
            have HOK : Hid (sqOk p x = false) := by show _ = _; rw [HSQ.out, HT.out]; simp [*]
            go_wp2_with fail
            go_round
            case rel => exact ⟨k + 1, by omega, by rw [← sqR_no HR.out HB.out HX.out HOK.out], by congr 1; omega⟩
            case measure => simp [intOf]; omega
    · obtain rfl : k = 36 := by omega
      have e6 : IntKind.u32.wrap (r : Int) = ((r % 4294967296 : Nat) : Int) := by rw [IntKind.wrap_u32]; omega
      obtain ⟨z, hz⟩ : ∃ z, z = r % 4294967296 := ⟨_, rfl⟩
      rw [← hz] at e6
      have HZ : Hid (sqW p = z) := by show _ = _; unfold sqW; rw [hz, hr]
      clear hz hr hlt
      go_wp2_with fail
      go_ret
      exact ⟨by rw [HZ.out]; rfl, rfl⟩
end Go.Proofs.YtgcdfoadegojcaaDoor
