/- The document's drive: Flip. -/
import Derived.Test.YtgfmmchmkfboaaaRdC
import Derived.Test.YtgfmmchmkfboaaaDkS
namespace Go.Proofs.Ytgfmmchmkfboaaa
open Go.RowKit
set_option linter.unusedVariables false
def flipT (f : Rf) (i : Nat) : List UInt8 := (f.l ++ f.w).data.toList.set (i / 8) (bitB ((f.l ++ f.w).data.toList.getD (i / 8) 0) (i % 8))
def rturnF (f : Rf) (i : Nat) : Rf := ⟨f.n, ⟨((flipT f i).take f.l.size).toArray⟩, ⟨((flipT f i).drop f.l.size).toArray⟩, f.s⟩
def noF : Rf := ⟨⟨#[]⟩, ⟨#[]⟩, ⟨#[]⟩, false⟩
def rflipC (d : Rk) (s : ByteArray) (i : Int) : Int := if isAt d.L s = false then 51 else if i < 0 ∨ (d.L.getD (placeL d.L s) noF).sz ≤ i.toNat / 8 then 1 else 0
def rflipD (d : Rk) (s : ByteArray) (i : Int) : Rk := if isAt d.L s = false then d else if i < 0 ∨ (d.L.getD (placeL d.L s) noF).sz ≤ i.toNat / 8 then d else setL d (placeL d.L s) (rturnF (d.L.getD (placeL d.L s) noF) i.toNat)
theorem flipT_len (f : Rf) (i : Nat) : (flipT f i).length = f.sz := by
  unfold flipT
  rw [List.length_set, Array.length_toList]
  show (f.l ++ f.w).size = _
  rw [ByteArray.size_append]; rfl
theorem Byt.take {w : World} {g : Nat} {t : TypeId} {l : List UInt8} (h : Byt w g t l) (n : Nat) : Byt w g t (l.take n) := by
  obtain ⟨cs, lo, hi', h, h1, h2⟩ := h
  refine ⟨cs, lo, hi', h, by rw [List.length_take]; omega, fun j hj => ?_⟩
  rw [List.length_take] at hj
  rw [h2 j (by omega), List.getElem_take]
theorem Byt.tail {P : Program} {w : World} {g : Nat} {t : TypeId} {l : List UInt8} (h : Byt w g t l) (src dst : TypeId) (cap : Nat) (hs : P.underlying src = some (.slice t)) (he : P.underlying t = some (.int .u8)) (hd : P.underlying dst = some .string) (n m : Nat) (ad : Addr) (hm : l.length - n = m) (ha : n < l.length → ad = ⟨g, n, none⟩) :
    (convert src dst (.slice (some ad) m cap)).run P w = .ok (.string ⟨(l.drop n).toArray⟩) w := by
  have hlen : (l.drop n).length = m := by rw [List.length_drop]; exact hm
  subst hm
  rw [← hlen]
  refine run_convert_bytes_back w src dst t ad cap (l.drop n) hs he hd fun j hj => ?_
  rw [List.length_drop] at hj
  rw [ha (by omega)]
  have e : (⟨g, n, none⟩ : Addr).add j = ⟨g, n + j, none⟩ := by unfold Addr.add; split <;> simp_all
  rw [e, h.cell (n + j) (by omega), List.getElem_drop]
set_option maxRecDepth 100000 in
set_option maxHeartbeats 4000000 in
theorem refFlip_any (b : Nat) (v : Value) (d : Rk) (s : ByteArray) (i : Int) (w : World) (h : RAt w b v d) (hi63 : i ≤ 9223372036854775807) :
    Calls Try.prog 36 #[.pointer (some ⟨b, 0, none⟩), .string s, .int .i64 i] w fun e w' => e = .returned (.int .i64 (rflipC d s i)) ∧ REnd b v (rflipD d s i) w w' := by
  have H := Lib.hid h
  have hll := h.len
  have hli : (d.L.length : Int) ≤ 1000000 := by omega
  cases ha : isAt d.L s
  · have HC : Hid (rflipC d s i = 51 ∧ rflipD d s i = d) := ⟨by unfold rflipC; rw [if_pos ha], by unfold rflipD; rw [if_pos ha]⟩
    have HA := Lib.hid ha
    clear ha h
    go_enter Try.func36, Try.ntmps36
    go_wp2_with fail
    refine (At_any b v d s _ H.out).mono ?_
    rintro e w1 ⟨rfl, g1⟩
    rw [HA.out]
    go_wp2
    go_ret
    exact ⟨by rw [HC.out.1]; rfl, by rw [HC.out.2]; exact REnd.same H.out g1⟩
  obtain ⟨f, hf, hfn, hlt⟩ := isAt_yes ha
  clear hfn
  obtain ⟨k, hk⟩ : ∃ k, k = placeL d.L s := ⟨_, rfl⟩
  rw [← hk] at hf hlt
  have HK := Lib.hid hk
  have HA := Lib.hid ha
  have HF := Lib.hid hf
  have hgd : d.L.getD (placeL d.L s) noF = f := by rw [← hk, List.getD, hf]; rfl
  have hsz := h.sz f (List.mem_of_getElem? hf)
  have hsz' : f.l.size + f.w.size ≤ 1048576 := hsz
  obtain ⟨g, c, rfl, hc1, hc2⟩ := H.out.blkOf hlt
  have hcm : (c : Int) ≤ 9223372036854775807 := by unfold maxLen at hc2; omega
  have i0 : (0 : Int) ≤ k := by omega
  have i1 : (k : Int) < d.L.length := by omega
  by_cases h0 : i < 0
  · have HC : Hid (rflipC d s i = 1 ∧ rflipD d s i = d) := ⟨by unfold rflipC; rw [if_neg (by rw [ha]; simp), if_pos (.inl h0)], by unfold rflipD; rw [if_neg (by rw [ha]; simp), if_pos (.inl h0)]⟩
    have d1 : decide (i < 0) = true := decide_eq_true h0
    clear ha h hk hf hgd
    go_enter Try.func36, Try.ntmps36
    go_wp2_with fail
    refine (At_any b _ d s _ H.out).mono ?_
    rintro e w1 ⟨rfl, g1⟩
    rw [HA.out, ← HK.out]
    have h1 := H.out.keep g1
    obtain ⟨r0, r1, r2, r3⟩ := h1.cells f rfl hlt HF.out
    have c0 := h1.c0
    have G1 := Lib.hid g1
    clear h1 g1
    go_wp2
    go_ret
    exact ⟨by rw [HC.out.1]; rfl, by rw [HC.out.2]; exact REnd.same H.out (grow_none G1.out (World.grownBy_alloc _ _ _))⟩
  obtain ⟨q, rfl⟩ : ∃ q : Nat, i = (q : Int) := ⟨i.toNat, by omega⟩
  have d1 : decide ((q : Int) < 0) = false := decide_eq_false h0
  obtain ⟨a, haq⟩ : ∃ a, a = q / 8 := ⟨_, rfl⟩
  obtain ⟨t, htq⟩ : ∃ t, t = q % 8 := ⟨_, rfl⟩
  have ht8 : t < 8 := by omega
  have q1 : (q : Int).tdiv 8 = (a : Int) := by rw [Int.tdiv_eq_ediv_of_nonneg (by omega)]; omega
  have q2 : (q : Int) / 8 = (a : Int) := by omega
  have q3 : (q : Int).tmod 8 = (t : Int) := by rw [Int.tmod_eq_emod_of_nonneg (by omega)]; omega
  have q4 : (q : Int) % 8 = (t : Int) := by omega
  have wa : IntKind.i64.wrap (a : Int) = (a : Int) := by rw [IntKind.wrap_i64]; omega
  by_cases hbig : f.sz ≤ a
  · have hcond : (q : Int) < 0 ∨ f.sz ≤ (q : Int).toNat / 8 := .inr (by rw [Int.toNat_natCast, ← haq]; exact hbig)
    have HC : Hid (rflipC d s q = 1 ∧ rflipD d s q = d) := ⟨by unfold rflipC; rw [if_neg (by rw [ha]; simp), hgd, if_pos hcond], by unfold rflipD; rw [if_neg (by rw [ha]; simp), hgd, if_pos hcond]⟩
    have hb' : f.l.size + f.w.size ≤ a := hbig
    have d2 : decide ((f.l.size : Int) + (f.w.size : Int) ≤ (a : Int)) = true := decide_eq_true (by omega)
    have d3 : (f.l.size : Int) + (f.w.size : Int) ≤ (a : Int) := by omega
    clear ha h hk hf hgd hcond hbig haq htq
    go_enter Try.func36, Try.ntmps36
    go_wp2_with fail
    refine (At_any b _ d s _ H.out).mono ?_
    rintro e w1 ⟨rfl, g1⟩
    rw [HA.out, ← HK.out]
    have h1 := H.out.keep g1
    obtain ⟨r0, r1, r2, r3⟩ := h1.cells f rfl hlt HF.out
    have c0 := h1.c0
    have G1 := Lib.hid g1
    clear h1 g1
    go_wp2
    go_ret
    exact ⟨by rw [HC.out.1]; rfl, by rw [HC.out.2]; exact REnd.same H.out (grow_none G1.out (World.grownBy_alloc _ _ _))⟩
  have hcond : ¬ ((q : Int) < 0 ∨ f.sz ≤ (q : Int).toNat / 8) := fun x => by
    rcases x with x | x
    · exact h0 x
    · rw [Int.toNat_natCast, ← haq] at x; exact hbig x
  have HC : Hid (rflipC d s q = 0 ∧ rflipD d s q = setL d k (rturnF f q)) := ⟨by unfold rflipC; rw [if_neg (by rw [ha]; simp), hgd, if_neg hcond], by unfold rflipD; rw [if_neg (by rw [ha]; simp), hgd, if_neg hcond, ← hk, Int.toNat_natCast]⟩
  have hb' : a < f.l.size + f.w.size := by unfold Rf.sz at hbig; omega
  have d2 : decide ((f.l.size : Int) + (f.w.size : Int) ≤ (a : Int)) = false := decide_eq_false (by omega)
  have d3 : ¬ (f.l.size : Int) + (f.w.size : Int) ≤ (a : Int) := by omega
  have d4 : (a : Int) < (f.l.size : Int) + (f.w.size : Int) := by omega
  have a0 : (0 : Int) ≤ a := by omega
  have t0 : (0 : Int) ≤ t := by omega
  have hb1 : ¬ 9223372036854775807 < f.l.size + f.w.size := by omega
  obtain ⟨X, hX⟩ : ∃ X, X = f.l ++ f.w := ⟨_, rfl⟩
  have hXs : X.size = f.l.size + f.w.size := by rw [hX, ByteArray.size_append]
  have haX : a < X.size := by omega
  have hXl : X.data.toList.length = X.size := by simp
  have hbit := bits_any X[a] t ht8
  have hT : flipT f q = X.data.toList.set a (bitB X[a] t) := by unfold flipT; rw [← hX, ← haq, ← htq, byte_get X a haX]
  obtain ⟨cb, hcb⟩ : ∃ cb, cb = bitB X[a] t := ⟨_, rfl⟩
  rw [← hcb] at hbit hT
  have HT := Lib.hid hT
  have HX := Lib.hid hX
  have hlT : (X.data.toList.set a cb).length = X.size := by rw [List.length_set, hXl]
  clear ha h hk hf hgd hcond hbig haq htq hT hcb h0 hX
  go_enter Try.func36, Try.ntmps36
  go_wp2_with fail
  refine (At_any b _ d s _ H.out).mono ?_
  rintro e w1 ⟨rfl, g1⟩
  rw [HA.out, ← HK.out]
  have h1 := H.out.keep g1
  obtain ⟨r0, r1, r2, r3⟩ := h1.cells f rfl hlt HF.out
  have c0 := h1.c0
  have G1 := Lib.hid g1
  have H1 := Lib.hid h1
  obtain ⟨o1, ho1⟩ : ∃ o1 : Obj, o1 = .cells #[.string f.n, .string f.l, .string f.w, .bool f.s] 66 := ⟨_, rfl⟩
  have gA : w1.grownBy (w1.alloc o1) none := World.grownBy_alloc _ _ _
  have bA : Blk (w1.alloc o1) w1.heap.size 66 [.string f.n, .string f.l, .string f.w, .bool f.s] := by rw [ho1]; exact Blk.new w1 66 [.string f.n, .string f.l, .string f.w, .bool f.s]
  have hby : ∀ W, (convert 9 49 (.string (f.l ++ f.w))).run Try.prog W = .ok (.slice (some ⟨W.heap.size, 0, none⟩) X.size (grownCap W X.size 0 5)) (bytesOf W 5 X) := fun W => by
    rw [← HX.out]
    exact run_bytes (P := Try.prog) W 9 49 5 X Try.underlying9 Try.underlying49 Try.underlying5
  have b0 := bytesOf_byt (w1.alloc o1) 5 X
  have gb := grow_none gA (bytesOf_grow (w1.alloc o1) 5 X)
  have bB := bA.keep (bytesOf_grow (w1.alloc o1) 5 X)
  obtain ⟨cap, hcap⟩ : ∃ cap, cap = grownCap (w1.alloc o1) X.size 0 5 := ⟨_, rfl⟩
  have hcn : X.size ≤ cap := by rw [hcap]; exact grownCap_ge _ _ _ _
  have hsA : (w1.alloc o1).heap.size = w1.heap.size + 1 := by simp
  rw [hsA] at b0
  obtain ⟨n0, hn0⟩ : ∃ n0, n0 = w1.heap.size := ⟨_, rfl⟩
  rw [← hn0] at b0 bB
  have hcell := b0.cell a (by rw [hXl]; exact haX)
  have hfr := b0.frozen a (by rw [hXl]; exact haX)
  have hxc : X.data.toList[a]'(by rw [hXl]; exact haX) = X[a] := rfl
  rw [hxc] at hcell
  clear g1 h1 gA bA
  have HCAP := Lib.hid hcap
  have HN0 := Lib.hid hn0
  have hXI : (X.size : Int) = (f.l.size : Int) + (f.w.size : Int) := by omega
  have HO1 := Lib.hid ho1
  have HGB := Lib.hid (show w.grownBy _ none from grow_none G1.out gb)
  obtain ⟨wb, hwb⟩ : ∃ wb, wb = bytesOf (w1.alloc o1) 5 X := ⟨_, rfl⟩
  rw [← hwb] at b0 gb bB hcell hfr HGB
  have HWB : Hid (bytesOf (w1.alloc (.cells #[.string f.n, .string f.l, .string f.w, .bool f.s] 66)) 5 X = wb) := by show _ = _; rw [hwb, ho1]
  have HCP : Hid (grownCap (w1.alloc (.cells #[.string f.n, .string f.l, .string f.w, .bool f.s] 66)) (f.l.size + f.w.size) 0 5 = cap) := by show _ = _; rw [hcap, ho1, hXs]
  have hbn : b < n0 := by rw [HN0.out]; exact H1.out.lt
  have hgn : g < n0 := by rw [HN0.out]; exact H1.out.own.lt rfl
  have HBB := Lib.hid bB
  have HB0 := Lib.hid b0
  have HGW := Lib.hid (show w1.grownBy wb none from gb)
  clear hcap hn0 hwb gb bB b0
  subst ho1
  clear HO1
  go_wp2
  rw [HWB.out, HCP.out, ← HN0.out]
  go_region
  have hbit' : bits BinOp.xor IntKind.u8 (X[a].toNat : Int) (2 ^ t % 256) = (cb.toNat : Int) := by have := hbit; rwa [IntKind.wrap_u8] at this
  obtain ⟨wz, hwz⟩ : ∃ wz, wz = (wb.setCell ⟨n0 + 1, a, none⟩ (.int .u8 (bits BinOp.xor IntKind.u8 (X[a].toNat : Int) (2 ^ t % 256)))).drew := ⟨_, rfl⟩
  have bZ : Byt wz (n0 + 1) 5 (X.data.toList.set a cb) := by rw [hwz]; exact (HB0.out.set_ a cb _ hbit').drew
  have GZ : w1.grownBy wz none := by rw [hwz]; exact grow_drawn (grow_setnew HGW.out (a := ⟨n0 + 1, a, none⟩) (by show w1.heap.size ≤ n0 + 1; rw [HN0.out]; omega) _)
  have fZ : Blk wz n0 66 [.string f.n, .string f.l, .string f.w, .bool f.s] := by rw [hwz]; exact (HBB.out.far (p := ⟨n0 + 1, a, none⟩) (by show n0 ≠ n0 + 1; omega) _).drew
  have HZ := Lib.hid (H1.out.keep GZ)
  have HGZ := Lib.hid GZ
  obtain ⟨T, hTT⟩ : ∃ T, T = X.data.toList.set a cb := ⟨_, rfl⟩
  have hTl : T.length = f.l.size + f.w.size := by rw [hTT, hlT, hXs]
  rw [← hTT] at bZ
  obtain ⟨L1, hL1⟩ : ∃ L1 : ByteArray, L1 = ⟨(T.take f.l.size).toArray⟩ := ⟨_, rfl⟩
  obtain ⟨L2, hL2⟩ : ∃ L2 : ByteArray, L2 = ⟨(T.drop f.l.size).toArray⟩ := ⟨_, rfl⟩
  have hs1 : L1.size = f.l.size := by rw [hL1]; show (T.take f.l.size).toArray.size = _; rw [List.size_toArray, List.length_take]; omega
  have hs2 : L2.size = f.w.size := by rw [hL2]; show (T.drop f.l.size).toArray.size = _; rw [List.size_toArray, List.length_drop]; omega
  have HRF : Hid (rturnF f q = ⟨f.n, L1, L2, f.s⟩) := by show _ = _; unfold rturnF; rw [HT.out, ← hTT, ← hL1, ← hL2]
  have cv : ∀ W, Byt W (n0 + 1) 5 T → (convert 49 9 (.slice (some ⟨n0 + 1, 0, none⟩) f.l.size cap)).run Try.prog W = .ok (.string L1) W := fun W hB => by
    rw [hL1]
    exact (hB.take f.l.size).str (P := Try.prog) 49 9 cap Try.underlying49 Try.underlying5 Try.underlying9 f.l.size (by rw [List.length_take]; omega)
  obtain ⟨ad, had, hor⟩ : ∃ ad : Addr, (if cap = f.l.size then some (⟨n0 + 1, 0, none⟩ : Addr) else some ⟨n0 + 1, f.l.size, none⟩) = some ad ∧ (f.l.size < T.length → ad = ⟨n0 + 1, f.l.size, none⟩) := by
    by_cases hc : cap = f.l.size
    · exact ⟨_, if_pos hc, fun x => by rw [hTl] at x; omega⟩
    · exact ⟨_, if_neg hc, fun _ => rfl⟩
  have cv2 : ∀ W, Byt W (n0 + 1) 5 T → (convert 49 9 (.slice (some ad) f.w.size (cap - f.l.size))).run Try.prog W = .ok (.string L2) W := fun W hB => by
    rw [hL2]
    exact hB.tail (P := Try.prog) 49 9 (cap - f.l.size) Try.underlying49 Try.underlying5 Try.underlying9 f.l.size f.w.size ad (by rw [hTl]; omega) hor
  have BZ := Lib.hid bZ
  have FZ := Lib.hid fZ
  have CV := Lib.hid cv
  have CV2 := Lib.hid cv2
  have u0 := HZ.out.c0
  have u1 := fZ.cell 1 (by simp)
  obtain ⟨s0, s1, s2, s3⟩ := HZ.out.cells f rfl hlt HF.out
  have e1 := HZ.out.own.frozen (k * 4 + 1)
  have v0 := CV.out wz bZ
  have v1 := CV.out wz.drew bZ.drew
  have v2 := fun n => CV.out (wz.drewN n) (bZ.keep (grow_drawnN n (grow_refl _ _)))
  have l1 : (f.l.size : Int) ≤ cap := by omega
  have l1' : f.l.size ≤ cap := by omega
  have l2 : f.l.size ≤ f.l.size + f.w.size := by omega
  have HHS := Lib.hid (show _ ∧ _ from ⟨hs1, hs2⟩)
  clear bZ fZ GZ cv cv2 hTT hL1 hL2 hs1 hs2 hbit hbit' hcell hfr hxc r0 r1 r2 r3 c0 hby hsA HCAP HWB HCP
  have HHAD := Lib.hid had
  clear had hor
  rw [← hwz]
  clear hwz
  go_wp2
  go_region
  have had := HHAD.out
  have hg2 := HZ.out
  have hlk : k < d.L.length := hlt
  have hfk : d.L[k] = f := by
    have := List.getElem?_eq_getElem hlk
    rw [HF.out] at this; injection this with this; exact this.symm
  have p1 := hg2.set1 k hlk ⟨f.n, L1, f.w, f.s⟩ 1 (by omega) (.string L1) (by rw [hfk]; rfl) (by have := HHS.out.1; unfold Rf.sz; dsimp only; omega) (by rw [hfk])
  have p2 := p1.set1 k (by show k < (d.L.set k _).length; rw [List.length_set]; exact hlk) (rturnF f q) 2 (by omega) (.string L2) (by show _ = (((d.L.set k _)[k]'_).cells).set 2 _; rw [List.getElem_set_self, HRF.out]; rfl) (by rw [HRF.out]; have := HHS.out; unfold Rf.sz; dsimp only; omega) (by show _ = ((d.L.set k _)[k]'_).n; rw [List.getElem_set_self, HRF.out])
  rw [setL_twice] at p2
  obtain ⟨wy, hwy⟩ : ∃ wy, wy = (wz.setCell ⟨g, k * 4 + 1, none⟩ (.string L1)).drew := ⟨_, rfl⟩
  have P1 : RAt wy b (.slice (some ⟨g, 0, none⟩) d.L.length c) (setL d k ⟨f.n, L1, f.w, f.s⟩) := by rw [hwy]; exact p1.drew
  have bY : Byt wy (n0 + 1) 5 T := by rw [hwy]; exact (BZ.out.kept (grow_set wz ⟨g, k * 4 + 1, none⟩ _) (by intro e; injection e with e; have e : n0 + 1 = g := e; omega)).drew
  have fY : Blk wy n0 66 [.string f.n, .string f.l, .string f.w, .bool f.s] := by rw [hwy]; exact (FZ.out.far (p := ⟨g, k * 4 + 1, none⟩) (by show n0 ≠ g; omega) _).drew
  have HE : Hid (REnd b (.slice (some ⟨g, 0, none⟩) d.L.length c) (setL d k (rturnF f q)) w (wy.setCell ⟨g, k * 4 + 2, none⟩ (.string L2))) := by
    show REnd _ _ _ _ _
    rw [hwy]
    refine REnd.front (grow_none G1.out HGZ.out) (REnd.of_row (d' := setL d k (rturnF f q)) ?_ ?_)
    · exact p2.drew
    · exact grow_same (grow_drawn (grow_set wz ⟨g, k * 4 + 1, none⟩ _)) (grow_set _ ⟨g, k * 4 + 2, none⟩ _)
  have y0 := P1.c0
  have y1 := fY.cell 1 (by simp)
  have y2 := P1.own.at_ Rf.len k hlk ⟨f.n, L1, f.w, f.s⟩ (setL_get hlk _) 2 (by omega)
  have ey := P1.own.frozen (k * 4 + 2)
  have x0 := CV2.out wy bY
  have x1 := CV2.out wy.drew bY.drew
  have x2 := fun n => CV2.out (wy.drewN n) (bY.keep (grow_drawnN n (grow_refl _ _)))
  clear p1 p2 P1 bY fY hfk hg2 u0 u1 v0 v1 v2 s0 s1 s2 s3 e1
  rw [← hwy]
  clear hwy
  go_wp2
  go_region
  all_goals
    go_wp2
    go_ret
    exact ⟨by rw [HC.out.1]; rfl, by rw [HC.out.2]; exact REnd.back HE.out (grow_drawn (grow_refl _ _))⟩
end Go.Proofs.Ytgfmmchmkfboaaa
