/- Stage 3: words of 32 bits; how a word is turned. -/
import Derived.Test.YtgcdfoadegojcaaDoorChecked
import Derived.Test.YtgcdfoadegojcaaDoorB2
import Derived.Test.YtgcdfoadegojcaaDoorRel
import Derived.Outline
namespace Go.Proofs.YtgcdfoadegojcaaDoor
open Go.RowKit
set_option linter.unusedVariables false
/-- A word turned to the right by n bits. -/
def rr (x : BitVec 32) (n : Nat) : BitVec 32 := (x >>> n) ||| (x <<< (32 - n))
/-- A word as the number that the model has. -/
def un (x : BitVec 32) : Int := (x.toNat : Int)
theorem un_bd (x : BitVec 32) : 0 ≤ un x ∧ un x < 4294967296 := by
  have := x.isLt
  unfold un; omega
theorem un_inj {x y : BitVec 32} (h : un x = un y) : x = y := BitVec.eq_of_toNat_eq (by unfold un at h; omega)
theorem un_xor (x y : BitVec 32) : bits .xor .u32 (un x) (un y) = un (x ^^^ y) := by
  unfold un; rw [u32_xor_nat _ _ x.isLt y.isLt, BitVec.toNat_xor]
theorem un_and (x y : BitVec 32) : bits .and .u32 (un x) (un y) = un (x &&& y) := by
  unfold un; rw [u32_and_nat _ _ x.isLt y.isLt, BitVec.toNat_and]
theorem un_or (x y : BitVec 32) : bits .or .u32 (un x) (un y) = un (x ||| y) := by
  unfold un; rw [u32_or_nat _ _ x.isLt y.isLt, BitVec.toNat_or]
theorem wrap_u32' (x : Int) : IntKind.u32.wrap x = x % 4294967296 := by rw [IntKind.wrap_u32]
theorem un_wrap (x : BitVec 32) : IntKind.u32.wrap (un x) = un x := by
  have := un_bd x
  rw [wrap_u32']; omega
theorem un_add (x y : BitVec 32) : IntKind.u32.wrap (un x + un y) = un (x + y) := by
  rw [wrap_u32']; unfold un; rw [BitVec.toNat_add]; omega
theorem un_not (x : BitVec 32) : bits .xor .u32 IntKind.u32.max (un x) = un (~~~ x) := by
  have h := un_xor (4294967295#32) x
  have e : (4294967295#32 ^^^ x) = ~~~ x := by
    rw [← BitVec.allOnes_xor]; rfl
  rw [e] at h
  exact h
theorem un_shr (x : BitVec 32) (n Q : Nat) (hQ : Q = 2 ^ n) : un x / (Q : Int) = un (x >>> n) := by
  unfold un; rw [BitVec.toNat_ushiftRight, Nat.shiftRight_eq_div_pow, hQ, Int.natCast_ediv]
theorem un_shl (x : BitVec 32) (n P : Nat) (hP : P = 2 ^ n) : IntKind.u32.wrap (un x * (P : Int)) = un (x <<< n) := by
  rw [wrap_u32']
  unfold un
  rw [BitVec.toNat_shiftLeft, Nat.shiftLeft_eq, hP]
  rw [show ((x.toNat : Int) * ((2 ^ n : Nat) : Int)) = ((x.toNat * 2 ^ n : Nat) : Int) by rw [Int.natCast_mul]]
  rw [show (4294967296 : Int) = ((2 ^ 32 : Nat) : Int) by rfl, ← Int.natCast_emod]
attribute [go_sem] un_xor un_and un_or un_wrap un_add un_not
@[go_sem] theorem un_shl7 (x : BitVec 32) : IntKind.u32.wrap (un x * 128) = un (x <<< 7) := un_shl x 7 128 rfl
@[go_sem] theorem un_shl8 (x : BitVec 32) : IntKind.u32.wrap (un x * 256) = un (x <<< 8) := un_shl x 8 256 rfl
@[go_sem] theorem un_shl10 (x : BitVec 32) : IntKind.u32.wrap (un x * 1024) = un (x <<< 10) := un_shl x 10 1024 rfl
@[go_sem] theorem un_shl13 (x : BitVec 32) : IntKind.u32.wrap (un x * 8192) = un (x <<< 13) := un_shl x 13 8192 rfl
@[go_sem] theorem un_shl14 (x : BitVec 32) : IntKind.u32.wrap (un x * 16384) = un (x <<< 14) := un_shl x 14 16384 rfl
@[go_sem] theorem un_shl15 (x : BitVec 32) : IntKind.u32.wrap (un x * 32768) = un (x <<< 15) := un_shl x 15 32768 rfl
@[go_sem] theorem un_shl16 (x : BitVec 32) : IntKind.u32.wrap (un x * 65536) = un (x <<< 16) := un_shl x 16 65536 rfl
@[go_sem] theorem un_shl19 (x : BitVec 32) : IntKind.u32.wrap (un x * 524288) = un (x <<< 19) := un_shl x 19 524288 rfl
@[go_sem] theorem un_shl21 (x : BitVec 32) : IntKind.u32.wrap (un x * 2097152) = un (x <<< 21) := un_shl x 21 2097152 rfl
@[go_sem] theorem un_shl24 (x : BitVec 32) : IntKind.u32.wrap (un x * 16777216) = un (x <<< 24) := un_shl x 24 16777216 rfl
@[go_sem] theorem un_shl25 (x : BitVec 32) : IntKind.u32.wrap (un x * 33554432) = un (x <<< 25) := un_shl x 25 33554432 rfl
@[go_sem] theorem un_shl26 (x : BitVec 32) : IntKind.u32.wrap (un x * 67108864) = un (x <<< 26) := un_shl x 26 67108864 rfl
@[go_sem] theorem un_shl30 (x : BitVec 32) : IntKind.u32.wrap (un x * 1073741824) = un (x <<< 30) := un_shl x 30 1073741824 rfl
@[go_sem] theorem un_shr2 (x : BitVec 32) : un x / (4 : Int) = un (x >>> 2) := un_shr x 2 4 rfl
@[go_sem] theorem un_shr3 (x : BitVec 32) : un x / (8 : Int) = un (x >>> 3) := un_shr x 3 8 rfl
@[go_sem] theorem un_shr6 (x : BitVec 32) : un x / (64 : Int) = un (x >>> 6) := un_shr x 6 64 rfl
@[go_sem] theorem un_shr7 (x : BitVec 32) : un x / (128 : Int) = un (x >>> 7) := un_shr x 7 128 rfl
@[go_sem] theorem un_shr8 (x : BitVec 32) : un x / (256 : Int) = un (x >>> 8) := un_shr x 8 256 rfl
@[go_sem] theorem un_shr10 (x : BitVec 32) : un x / (1024 : Int) = un (x >>> 10) := un_shr x 10 1024 rfl
@[go_sem] theorem un_shr11 (x : BitVec 32) : un x / (2048 : Int) = un (x >>> 11) := un_shr x 11 2048 rfl
@[go_sem] theorem un_shr13 (x : BitVec 32) : un x / (8192 : Int) = un (x >>> 13) := un_shr x 13 8192 rfl
@[go_sem] theorem un_shr16 (x : BitVec 32) : un x / (65536 : Int) = un (x >>> 16) := un_shr x 16 65536 rfl
@[go_sem] theorem un_shr17 (x : BitVec 32) : un x / (131072 : Int) = un (x >>> 17) := un_shr x 17 131072 rfl
@[go_sem] theorem un_shr18 (x : BitVec 32) : un x / (262144 : Int) = un (x >>> 18) := un_shr x 18 262144 rfl
@[go_sem] theorem un_shr19 (x : BitVec 32) : un x / (524288 : Int) = un (x >>> 19) := un_shr x 19 524288 rfl
@[go_sem] theorem un_shr22 (x : BitVec 32) : un x / (4194304 : Int) = un (x >>> 22) := un_shr x 22 4194304 rfl
@[go_sem] theorem un_shr24 (x : BitVec 32) : un x / (16777216 : Int) = un (x >>> 24) := un_shr x 24 16777216 rfl
@[go_sem] theorem un_shr25 (x : BitVec 32) : un x / (33554432 : Int) = un (x >>> 25) := un_shr x 25 33554432 rfl
set_option maxRecDepth 100000 in
theorem Rotate_2 (x : BitVec 32) (w : World) :
    Calls Tryd.prog 75 #[.int .u32 (un x), .int .i64 (-2)] w fun e w' => e = .returned (.int .u32 (un (rr x 2))) ∧ w = w' := by
  have h1 : bits .and .u64 (IntKind.u64.wrap (-2)) 31 = 30 := by decide
  go_enter Tryd.func75, Tryd.ntmps75
  go_wp2
  go_ret
  exact ⟨congrArg (fun z => Ending.returned (.int .u32 (un z))) (BitVec.or_comm _ _), rfl⟩
set_option maxRecDepth 100000 in
theorem rot_2 (x : BitVec 32) (w : World) :
    Calls Tryd.prog 62 #[.int .u32 (un x), .int .i64 2] w fun e w' => e = .returned (.int .u32 (un (rr x 2))) ∧ w = w' := by
  go_enter Tryd.func62, Tryd.ntmps62
  go_wp2_with fail
  refine (Rotate_2 x _).mono ?_
  rintro e w' ⟨rfl, rfl⟩
  go_wp2
  go_ret
  exact ⟨rfl, rfl⟩
set_option maxRecDepth 100000 in
theorem Rotate_6 (x : BitVec 32) (w : World) :
    Calls Tryd.prog 75 #[.int .u32 (un x), .int .i64 (-6)] w fun e w' => e = .returned (.int .u32 (un (rr x 6))) ∧ w = w' := by
  have h1 : bits .and .u64 (IntKind.u64.wrap (-6)) 31 = 26 := by decide
  go_enter Tryd.func75, Tryd.ntmps75
  go_wp2
  go_ret
  exact ⟨congrArg (fun z => Ending.returned (.int .u32 (un z))) (BitVec.or_comm _ _), rfl⟩
set_option maxRecDepth 100000 in
theorem rot_6 (x : BitVec 32) (w : World) :
    Calls Tryd.prog 62 #[.int .u32 (un x), .int .i64 6] w fun e w' => e = .returned (.int .u32 (un (rr x 6))) ∧ w = w' := by
  go_enter Tryd.func62, Tryd.ntmps62
  go_wp2_with fail
  refine (Rotate_6 x _).mono ?_
  rintro e w' ⟨rfl, rfl⟩
  go_wp2
  go_ret
  exact ⟨rfl, rfl⟩
set_option maxRecDepth 100000 in
theorem Rotate_7 (x : BitVec 32) (w : World) :
    Calls Tryd.prog 75 #[.int .u32 (un x), .int .i64 (-7)] w fun e w' => e = .returned (.int .u32 (un (rr x 7))) ∧ w = w' := by
  have h1 : bits .and .u64 (IntKind.u64.wrap (-7)) 31 = 25 := by decide
  go_enter Tryd.func75, Tryd.ntmps75
  go_wp2
  go_ret
  exact ⟨congrArg (fun z => Ending.returned (.int .u32 (un z))) (BitVec.or_comm _ _), rfl⟩
set_option maxRecDepth 100000 in
theorem rot_7 (x : BitVec 32) (w : World) :
    Calls Tryd.prog 62 #[.int .u32 (un x), .int .i64 7] w fun e w' => e = .returned (.int .u32 (un (rr x 7))) ∧ w = w' := by
  go_enter Tryd.func62, Tryd.ntmps62
  go_wp2_with fail
  refine (Rotate_7 x _).mono ?_
  rintro e w' ⟨rfl, rfl⟩
  go_wp2
  go_ret
  exact ⟨rfl, rfl⟩
set_option maxRecDepth 100000 in
theorem Rotate_11 (x : BitVec 32) (w : World) :
    Calls Tryd.prog 75 #[.int .u32 (un x), .int .i64 (-11)] w fun e w' => e = .returned (.int .u32 (un (rr x 11))) ∧ w = w' := by
  have h1 : bits .and .u64 (IntKind.u64.wrap (-11)) 31 = 21 := by decide
  go_enter Tryd.func75, Tryd.ntmps75
  go_wp2
  go_ret
  exact ⟨congrArg (fun z => Ending.returned (.int .u32 (un z))) (BitVec.or_comm _ _), rfl⟩
set_option maxRecDepth 100000 in
theorem rot_11 (x : BitVec 32) (w : World) :
    Calls Tryd.prog 62 #[.int .u32 (un x), .int .i64 11] w fun e w' => e = .returned (.int .u32 (un (rr x 11))) ∧ w = w' := by
  go_enter Tryd.func62, Tryd.ntmps62
  go_wp2_with fail
  refine (Rotate_11 x _).mono ?_
  rintro e w' ⟨rfl, rfl⟩
  go_wp2
  go_ret
  exact ⟨rfl, rfl⟩
set_option maxRecDepth 100000 in
theorem Rotate_13 (x : BitVec 32) (w : World) :
    Calls Tryd.prog 75 #[.int .u32 (un x), .int .i64 (-13)] w fun e w' => e = .returned (.int .u32 (un (rr x 13))) ∧ w = w' := by
  have h1 : bits .and .u64 (IntKind.u64.wrap (-13)) 31 = 19 := by decide
  go_enter Tryd.func75, Tryd.ntmps75
  go_wp2
  go_ret
  exact ⟨congrArg (fun z => Ending.returned (.int .u32 (un z))) (BitVec.or_comm _ _), rfl⟩
set_option maxRecDepth 100000 in
theorem rot_13 (x : BitVec 32) (w : World) :
    Calls Tryd.prog 62 #[.int .u32 (un x), .int .i64 13] w fun e w' => e = .returned (.int .u32 (un (rr x 13))) ∧ w = w' := by
  go_enter Tryd.func62, Tryd.ntmps62
  go_wp2_with fail
  refine (Rotate_13 x _).mono ?_
  rintro e w' ⟨rfl, rfl⟩
  go_wp2
  go_ret
  exact ⟨rfl, rfl⟩
set_option maxRecDepth 100000 in
theorem Rotate_17 (x : BitVec 32) (w : World) :
    Calls Tryd.prog 75 #[.int .u32 (un x), .int .i64 (-17)] w fun e w' => e = .returned (.int .u32 (un (rr x 17))) ∧ w = w' := by
  have h1 : bits .and .u64 (IntKind.u64.wrap (-17)) 31 = 15 := by decide
  go_enter Tryd.func75, Tryd.ntmps75
  go_wp2
  go_ret
  exact ⟨congrArg (fun z => Ending.returned (.int .u32 (un z))) (BitVec.or_comm _ _), rfl⟩
set_option maxRecDepth 100000 in
theorem rot_17 (x : BitVec 32) (w : World) :
    Calls Tryd.prog 62 #[.int .u32 (un x), .int .i64 17] w fun e w' => e = .returned (.int .u32 (un (rr x 17))) ∧ w = w' := by
  go_enter Tryd.func62, Tryd.ntmps62
  go_wp2_with fail
  refine (Rotate_17 x _).mono ?_
  rintro e w' ⟨rfl, rfl⟩
  go_wp2
  go_ret
  exact ⟨rfl, rfl⟩
set_option maxRecDepth 100000 in
theorem Rotate_18 (x : BitVec 32) (w : World) :
    Calls Tryd.prog 75 #[.int .u32 (un x), .int .i64 (-18)] w fun e w' => e = .returned (.int .u32 (un (rr x 18))) ∧ w = w' := by
  have h1 : bits .and .u64 (IntKind.u64.wrap (-18)) 31 = 14 := by decide
  go_enter Tryd.func75, Tryd.ntmps75
  go_wp2
  go_ret
  exact ⟨congrArg (fun z => Ending.returned (.int .u32 (un z))) (BitVec.or_comm _ _), rfl⟩
set_option maxRecDepth 100000 in
theorem rot_18 (x : BitVec 32) (w : World) :
    Calls Tryd.prog 62 #[.int .u32 (un x), .int .i64 18] w fun e w' => e = .returned (.int .u32 (un (rr x 18))) ∧ w = w' := by
  go_enter Tryd.func62, Tryd.ntmps62
  go_wp2_with fail
  refine (Rotate_18 x _).mono ?_
  rintro e w' ⟨rfl, rfl⟩
  go_wp2
  go_ret
  exact ⟨rfl, rfl⟩
set_option maxRecDepth 100000 in
theorem Rotate_19 (x : BitVec 32) (w : World) :
    Calls Tryd.prog 75 #[.int .u32 (un x), .int .i64 (-19)] w fun e w' => e = .returned (.int .u32 (un (rr x 19))) ∧ w = w' := by
  have h1 : bits .and .u64 (IntKind.u64.wrap (-19)) 31 = 13 := by decide
  go_enter Tryd.func75, Tryd.ntmps75
  go_wp2
  go_ret
  exact ⟨congrArg (fun z => Ending.returned (.int .u32 (un z))) (BitVec.or_comm _ _), rfl⟩
set_option maxRecDepth 100000 in
theorem rot_19 (x : BitVec 32) (w : World) :
    Calls Tryd.prog 62 #[.int .u32 (un x), .int .i64 19] w fun e w' => e = .returned (.int .u32 (un (rr x 19))) ∧ w = w' := by
  go_enter Tryd.func62, Tryd.ntmps62
  go_wp2_with fail
  refine (Rotate_19 x _).mono ?_
  rintro e w' ⟨rfl, rfl⟩
  go_wp2
  go_ret
  exact ⟨rfl, rfl⟩
set_option maxRecDepth 100000 in
theorem Rotate_22 (x : BitVec 32) (w : World) :
    Calls Tryd.prog 75 #[.int .u32 (un x), .int .i64 (-22)] w fun e w' => e = .returned (.int .u32 (un (rr x 22))) ∧ w = w' := by
  have h1 : bits .and .u64 (IntKind.u64.wrap (-22)) 31 = 10 := by decide
  go_enter Tryd.func75, Tryd.ntmps75
  go_wp2
  go_ret
  exact ⟨congrArg (fun z => Ending.returned (.int .u32 (un z))) (BitVec.or_comm _ _), rfl⟩
set_option maxRecDepth 100000 in
theorem rot_22 (x : BitVec 32) (w : World) :
    Calls Tryd.prog 62 #[.int .u32 (un x), .int .i64 22] w fun e w' => e = .returned (.int .u32 (un (rr x 22))) ∧ w = w' := by
  go_enter Tryd.func62, Tryd.ntmps62
  go_wp2_with fail
  refine (Rotate_22 x _).mono ?_
  rintro e w' ⟨rfl, rfl⟩
  go_wp2
  go_ret
  exact ⟨rfl, rfl⟩
set_option maxRecDepth 100000 in
theorem Rotate_25 (x : BitVec 32) (w : World) :
    Calls Tryd.prog 75 #[.int .u32 (un x), .int .i64 (-25)] w fun e w' => e = .returned (.int .u32 (un (rr x 25))) ∧ w = w' := by
  have h1 : bits .and .u64 (IntKind.u64.wrap (-25)) 31 = 7 := by decide
  go_enter Tryd.func75, Tryd.ntmps75
  go_wp2
  go_ret
  exact ⟨congrArg (fun z => Ending.returned (.int .u32 (un z))) (BitVec.or_comm _ _), rfl⟩
set_option maxRecDepth 100000 in
theorem rot_25 (x : BitVec 32) (w : World) :
    Calls Tryd.prog 62 #[.int .u32 (un x), .int .i64 25] w fun e w' => e = .returned (.int .u32 (un (rr x 25))) ∧ w = w' := by
  go_enter Tryd.func62, Tryd.ntmps62
  go_wp2_with fail
  refine (Rotate_25 x _).mono ?_
  rintro e w' ⟨rfl, rfl⟩
  go_wp2
  go_ret
  exact ⟨rfl, rfl⟩
end Go.Proofs.YtgcdfoadegojcaaDoor
