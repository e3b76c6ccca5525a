/- Stage 6: the document's Purge. -/
import Derived.Test.YtpmfgjhkdokcbaaPoI
namespace Go.Proofs.Ytpmfgjhkdokcbaa
open Go.RowKit
set_option linter.unusedVariables false
theorem inB_snoc (x y : Int) (ns : List Int) : inB x (ns ++ [y]) = (inB x ns || decide (x = y)) := by
  unfold inB
  rw [Bool.eq_iff_iff]
  simp
theorem hit_snoc (l : Lt) (ns : List Int) (k : Nat) (hk : k < ns.length) (y : Int) (hy : y = ns.getD k 0) : hitB (ns.take (k + 1)) l = (hitB (ns.take k) l || decide (l.f = y) || decide (l.t = y)) := by
  have e : ns.take (k + 1) = ns.take k ++ [y] := by
    rw [hy, List.take_succ_eq_append_getElem hk, List.getD, List.getElem?_eq_getElem hk]; rfl
  unfold hitB
  rw [e, inB_snoc, inB_snoc]
  cases inB l.f (ns.take k) <;> cases inB l.t (ns.take k) <;> cases decide (l.f = y) <;> cases decide (l.t = y) <;> rfl
theorem purge_snoc (ns : List Int) (L : List Lt) (j : Nat) (hj : j < L.length) : purgeR ns (L.take (j + 1)) = if hitB ns L[j] then purgeR ns (L.take j) else purgeR ns (L.take j) ++ [L[j]] := by
  unfold purgeR
  rw [take_snocL L j hj, List.filter_append]
  cases h : hitB ns L[j] <;> simp [keepB, h]
set_option maxRecDepth 100000 in
set_option maxHeartbeats 4000000 in
theorem refPurge_any (t : TypeId) (b : Nat) (v : Value) (L : List Lt) (m : Nat) (vn : Value) (ns : List Int) (w : World) (h : PAt t w b v L m) (hr : RowAt w vn (ns.map (Value.int .i64))) (hl : ns.length ≤ maxLen) :
    Calls Try.prog 23 #[.pointer (some ⟨b, 0, none⟩), vn] w fun e w' => e = .returned (.int .i64 (purgeC ns L)) ∧ PEnd t b v (purgeR ns L) m w w' := by
  obtain ⟨i0, hi, hz0, hz1, hz2⟩ := info_parts info_lt
  have hb := h.lt
  have hmm := h.most
  have hml := h.len
  have hli : (L.length : Int) ≤ 512 := by omega
  obtain ⟨av, cv, e⟩ := hr.len
  rw [List.length_map] at e
  subst e
  have il : (ns.length : Int) ≤ 9223372036854775807 := by unfold maxLen at hl; omega
  have H := Lib.hid h
  obtain ⟨p, c, rfl⟩ := h.form
  clear h hl
  go_enter Try.func23, Try.ntmps23
  go_wp2
  go_loopw [5, 6] (fun u i wr => ∃ j : Nat, j ≤ L.length ∧ i = .int .i64 j ∧ OwnK Lt.cells 3 33 wr u (purgeR ns (L.take j)) ∧ NewBlk w u ∧ w.grownBy wr none) (fun _ i _ => L.length - (intOf i).toNat)
  case atStart => exact ⟨0, Nat.zero_le _, rfl, OwnK.nil _ _, newblk_nil _, grow_refl _ _⟩
  case round =>
    obtain ⟨j, hj, rfl, ho, hnb, hg⟩ := hrel
    have hP := H.out.keep hg
    have c0 := hP.c0
    have hj5 : (j : Int) ≤ 512 := by omega
    have j0 : (0 : Int) ≤ j := by omega
    by_cases hlt : j < L.length
    · have i1 : (j : Int) < L.length := by omega
      obtain ⟨x, hx⟩ : ∃ x, x = L[j] := ⟨_, rfl⟩
      have HX := Lib.hid hx
      have HXS : Hid (L[j]? = some x) := by show _ = _; rw [hx, List.getElem?_eq_getElem]
      have HO := Lib.hid ho
      have HP := Lib.hid hP
      clear hx ho hP
      go_wp2
      go_loopw [7, 8] (fun hh kk w2 => ∃ k : Nat, k ≤ ns.length ∧ kk = .int .i64 k ∧ hh = .bool (hitB (ns.take k) x) ∧ wr.grownBy w2 none) (fun _ kk _ => ns.length - (intOf kk).toNat)
      case atStart => exact ⟨0, Nat.zero_le _, rfl, rfl, grow_refl _ _⟩
      case round =>
        obtain ⟨k, hk, rfl, rfl, hg2⟩ := hrel
        have k0 : (0 : Int) ≤ k := by omega
        by_cases hkl : k < ns.length
        · have k1 : (k : Int) < ns.length := by omega
          obtain ⟨y, hy⟩ : ∃ y, y = ns.getD k 0 := ⟨_, rfl⟩
          have P2 := HP.out.keep hg2
          obtain ⟨bn, on, rfl, cn, _⟩ := row_int (hr.kept (grow_none hg hg2)) rfl hkl
          rw [← hy] at cn
          obtain ⟨gl, ol, rfl, _, r0, r1, _⟩ := lt_at P2.own.read rfl j hlt x HXS.out
          have d0 := P2.c0
          have HS := Lib.hid (hit_snoc x ns k hkl y hy)
          cases hh : hitB (ns.take k) x
          · rw [hh] at HS
            by_cases e1 : x.f = y
            · have HE : Hid (hitB (ns.take (k + 1)) x = true) := by show _ = _; rw [HS.out, decide_eq_true e1]; rfl
              have q1 : (x.f == y) = true := by simpa using e1
              clear hh hy HS P2 e1
              go_wp2
              go_quiet (fail)
              go_wp2
              go_roundw
              case rel => exact ⟨k + 1, by omega, by go_num, by rw [HE.out], grow_drawnN _ hg2⟩
              case measure => simp [intOf]; omega
            · have q1 : (x.f == y) = false := by simpa using e1
              by_cases e2 : x.t = y
              · have HE : Hid (hitB (ns.take (k + 1)) x = true) := by show _ = _; rw [HS.out, decide_eq_true e2, Bool.or_true]
                have q2 : (x.t == y) = true := by simpa using e2
                clear hh hy HS P2 e1 e2
                go_wp2
                go_quiet (fail)
                go_wp2
                go_roundw
                case rel => exact ⟨k + 1, by omega, by go_num, by rw [HE.out], grow_drawnN _ hg2⟩
                case measure => simp [intOf]; omega
              · have q2 : (x.t == y) = false := by simpa using e2
                have HE : Hid (hitB (ns.take (k + 1)) x = false) := by show _ = _; rw [HS.out, decide_eq_false e1, decide_eq_false e2]; rfl
                clear hh hy HS P2 e1 e2
                go_wp2
                go_quiet (fail)
                go_wp2
                go_roundw
                case rel => exact ⟨k + 1, by omega, by go_num, by rw [HE.out], grow_drawnN _ hg2⟩
                case measure => simp [intOf]; omega
          · rw [hh] at HS
            have HE : Hid (hitB (ns.take (k + 1)) x = true) := by show _ = _; rw [HS.out]; rfl
            clear hh hy HS P2
            go_wp2
            go_quiet (fail)
            go_wp2
            go_roundw
            case rel => exact ⟨k + 1, by omega, by go_num, by rw [HE.out], grow_drawnN _ hg2⟩
            case measure => simp [intOf]; omega
        · obtain rfl : k = ns.length := by omega
          have P2 := HP.out.keep hg2
          have O2 := HO.out.keep hg2
          have G2 := grow_none hg hg2
          obtain ⟨gl, ol, rfl, hgl, r0, r1, r2⟩ := lt_at P2.own.read rfl j hlt x HXS.out
          have d0 := P2.c0
          have HPS := Lib.hid (purge_snoc ns L j hlt)
          have HTA : Hid (ns.take ns.length = ns) := List.take_length
          rw [HTA.out]
          cases hh : hitB ns x
          · have HN : Hid (purgeR ns (L.take (j + 1)) = purgeR ns (L.take j) ++ [x]) := by show _ = _; rw [HPS.out, ← HX.out, hh]; rfl
            have HL5 : Hid ((purgeR ns (L.take j)).length ≤ 512) := by
              show _ ≤ _
              have := purgeR_le ns (L.take j)
              rw [List.length_take] at this; omega
            have oA := O2.keep (World.grownBy_alloc wr (.cells #[.int .i64 x.f, .int .i64 x.t, .string x.d] 33) none)
            have rA := ReadK.one Lt.len wr x 33 1 #[.int .i64 x.f, .int .i64 x.t, .string x.d] rfl
            clear hh HPS O2 P2
            go_wp2_with (at_builtin; refine wpList_append_k rfl _ _ 40 rfl 33 i0 _ 32 Lt.len Lt.ones (by omega) Try.underlying40 hi hz0 hz1 hz2 rfl _ rfl oA _ rfl rA (by have := HL5.out; show _ + 1 ≤ 2^63-1; omega) (by have := HL5.out; show (_ + 1) * 32 ≤ _; omega) ?_)
            intro v4 w4 o4 g4 m4
            have X4 := grow_newblk (grow_none G2 (World.grownBy_alloc wr (.cells #[.int .i64 x.f, .int .i64 x.t, .string x.d] 33) none)) hnb g4
            have N4 := hnb.moved (grow_none G2 (World.grownBy_alloc wr (.cells #[.int .i64 x.f, .int .i64 x.t, .string x.d] 33) none)).size m4
            rw [← HN.out] at o4
            clear oA rA g4 m4
            go_wp2
            go_roundw
            case rel => exact ⟨j + 1, by omega, by go_num, o4, N4, X4⟩
            case measure => simp [intOf]; omega
          · have HN : Hid (purgeR ns (L.take (j + 1)) = purgeR ns (L.take j)) := by show _ = _; rw [HPS.out, ← HX.out, hh]; rfl
            clear hh HPS P2
            go_wp2
            go_roundw
            case rel => exact ⟨j + 1, by omega, by go_num, by rw [HN.out]; exact O2, hnb, G2⟩
            case measure => simp [intOf]; omega
    · obtain rfl : j = L.length := by omega
      rw [List.take_length] at ho
      obtain ⟨a8, k8, rfl⟩ := ho.read.len
      have hpl := purgeR_le ns L
      have HST := Lib.hid (H.out.store (w4 := wr) (grow_to hg) (fun g' hg' => .inr (hnb g' hg')) ho (by omega))
      have f0 := hP.fr 0
      have HNB := Lib.hid hnb
      obtain ⟨N, hN⟩ : ∃ N, N = (purgeR ns L).length := ⟨_, rfl⟩
      have HPC : Hid (purgeC ns L = (L.length : Int) - (N : Int)) := by show _ = _; unfold purgeC; rw [hN]
      rw [← hN] at HST HNB hpl
      rw [← hN]
      have n0 : (0 : Int) ≤ N := by omega
      have n1 : (N : Int) ≤ 512 := by omega
      clear hN ho hnb hP
      go_wp2
      go_ret
      exact ⟨by rw [HPC.out]; rfl, _, HST.out.1, HST.out.2, fun g' hg' => .inr (HNB.out g' hg')⟩
end Go.Proofs.Ytpmfgjhkdokcbaa
