/- Stage 5: New, Fuse, Down, Steps, Read, Append, Sync, Remove. -/
import Derived.Test.YtgfmmchmkfboaaaDkD
import Derived.Test.YtgfmmchmkfboaaaStep
namespace Go.Proofs.Ytgfmmchmkfboaaa
open Go.RowKit
set_option linter.unusedVariables false
def putE (F : ByteArray → Option Ent) (s : ByteArray) (e : Option Ent) : ByteArray → Option Ent := fun x => if x = s then e else F x
theorem putG_same {G : ByteArray → Option Nat} {s : ByteArray} {g : Nat} (h : G s = some g) : putG G s (some g) = G := by
  funext x
  unfold putG
  split
  · rename_i e; rw [e, h]
  · rfl
section
variable {w w' : World} {b mb n : Nat} {G : ByteArray → Option Nat} {d : Dk}
/-- A file of the drive is another one. -/
theorem DAt.file (h : DAt w b mb n G d) (s : ByteArray) (g : Nat) (hg : G s = some g) (e : Ent) (hb : FB w' g e) (hs : e.sz ≤ 1048576) (gr : w.grownBy w' (some g)) :
    DAt w' b mb n G { d with F := putE d.F s (some e) } := by
  have hf := h.far s g hg
  refine ⟨h.blk.kept gr (fun x => hf.1 (by injection x with x; exact x.symm)), h.map.kept gr (fun x => hf.2 (by injection x with x; exact x.symm)), fun t x hx => ?_, fun t ht => ?_, h.inj, h.far, h.ne, h.n1, h.f1, h.s1⟩
  · by_cases he : t = s
    · subst he
      rw [hg] at hx; injection hx with hx; subst hx
      exact ⟨e, by show putE d.F t (some e) t = some e; unfold putE; rw [if_pos rfl], hb, hs⟩
    · obtain ⟨e', h1, h2, h3⟩ := h.ent t x hx
      refine ⟨e', by show putE d.F s (some e) t = _; unfold putE; rw [if_neg he]; exact h1, Blk.kept h2 gr (fun y => ?_), h3⟩
      injection y with y
      exact he (h.inj t s g (by rw [hx, y]) hg)
  · show putE d.F s (some e) t = none
    unfold putE
    have : t ≠ s := by intro x; rw [x, hg] at ht; cases ht
    rw [if_neg this]; exact h.non t ht
theorem DEnd.file (h : DAt w b mb n G d) (s : ByteArray) (g : Nat) (hg : G s = some g) (e : Ent) (hb : FB w' g e) (hs : e.sz ≤ 1048576) (gr : w.grownBy w' (some g)) :
    DEnd b mb G n { d with F := putE d.F s (some e) } w w' :=
  ⟨G, h.file s g hg e hb hs gr, Chg.of_row gr (fun i hi _ => by injection hi with hi; subst hi; exact .inr (.inr ⟨s, hg⟩)), fun t x hx => .inl ⟨t, hx⟩⟩
/-- The map has a name more, or anew. -/
theorem DAt.mapPut (h : DAt w b mb n G d) (s : ByteArray) (f : Nat) (e : Ent) (hb : FB w f e) (hs : e.sz ≤ 1048576) (hf : (G s = some f ∧ d.F s = some e) ∨ (¬ DS b mb G f))
    (hm : MapG w' mb (n + 1) (putG G s (some f))) (gr : w.grownBy w' (some mb)) (hn : n + 1 ≤ 1000000) : DAt w' b mb (n + 1) (putG G s (some f)) { d with F := putE d.F s (some e) } := by
  have hfb : f ≠ b ∧ f ≠ mb := by
    rcases hf with ⟨x, _⟩ | x
    · exact h.far s f x
    · exact ⟨fun y => x (.inl y), fun y => x (.inr (.inl y))⟩
  refine ⟨h.blk.kept gr (fun x => h.ne (by injection x)), hm, fun t x hx => ?_, fun t ht => ?_, fun t u x ht hu => ?_, fun t x hx => ?_, h.ne, hn, h.f1, h.s1⟩
  · unfold putG at hx
    by_cases he : t = s
    · subst he
      rw [if_pos rfl] at hx; injection hx with hx; subst hx
      exact ⟨e, by show putE d.F t (some e) t = _; unfold putE; rw [if_pos rfl], Blk.kept hb gr (fun y => hfb.2 (by injection y)), hs⟩
    · rw [if_neg he] at hx
      obtain ⟨e', h1, h2, h3⟩ := h.ent t x hx
      exact ⟨e', by show putE d.F s (some e) t = _; unfold putE; rw [if_neg he]; exact h1, Blk.kept h2 gr (fun y => (h.far t x hx).2 (by injection y)), h3⟩
  · unfold putG at ht
    by_cases he : t = s
    · rw [if_pos he] at ht; cases ht
    · rw [if_neg he] at ht
      show putE d.F s (some e) t = none
      unfold putE; rw [if_neg he]; exact h.non t ht
  · unfold putG at ht hu
    have key : ∀ v, v ≠ s → G v = some f → False := fun v hv hv2 => by
      rcases hf with ⟨y, _⟩ | y
      · exact hv (h.inj v s f hv2 y)
      · exact y (.inr (.inr ⟨v, hv2⟩))
    by_cases he : t = s
    · by_cases hu' : u = s
      · rw [he, hu']
      · rw [if_pos he] at ht; rw [if_neg hu'] at hu
        injection ht with ht; subst ht
        exact absurd hu (fun y => key u hu' y)
    · by_cases hu' : u = s
      · rw [if_neg he] at ht; rw [if_pos hu'] at hu
        injection hu with hu; subst hu
        exact absurd ht (fun y => key t he y)
      · rw [if_neg he] at ht; rw [if_neg hu'] at hu
        exact h.inj t u x ht hu
  · unfold putG at hx
    by_cases he : t = s
    · rw [if_pos he] at hx; injection hx with hx; subst hx; exact hfb
    · rw [if_neg he] at hx; exact h.far t x hx
/-- A name is gone. -/
theorem DAt.mapDel (h : DAt w b mb n G d) (s : ByteArray) (hm : MapG w' mb n (putG G s none)) (gr : w.grownBy w' (some mb)) : DAt w' b mb n (putG G s none) { d with F := putE d.F s none } := by
  refine ⟨h.blk.kept gr (fun x => h.ne (by injection x)), hm, fun t x hx => ?_, fun t ht => ?_, fun t u x ht hu => ?_, fun t x hx => ?_, h.ne, h.n1, h.f1, h.s1⟩
  · unfold putG at hx
    by_cases he : t = s
    · rw [if_pos he] at hx; cases hx
    · rw [if_neg he] at hx
      obtain ⟨e', h1, h2, h3⟩ := h.ent t x hx
      exact ⟨e', by show putE d.F s none t = _; unfold putE; rw [if_neg he]; exact h1, Blk.kept h2 gr (fun y => (h.far t x hx).2 (by injection y)), h3⟩
  · show putE d.F s none t = none
    unfold putG at ht
    unfold putE
    by_cases he : t = s
    · rw [if_pos he]
    · rw [if_neg he] at ht ⊢; exact h.non t ht
  · unfold putG at ht hu
    by_cases he : t = s
    · rw [if_pos he] at ht; cases ht
    · by_cases hu' : u = s
      · rw [if_pos hu'] at hu; cases hu
      · rw [if_neg he] at ht; rw [if_neg hu'] at hu
        exact h.inj t u x ht hu
  · unfold putG at hx
    by_cases he : t = s
    · rw [if_pos he] at hx; cases hx
    · rw [if_neg he] at hx; exact h.far t x hx
theorem putG_old (s t : ByteArray) (x : Nat) (hx : putG G s none t = some x) : t ≠ s ∧ G t = some x := by
  unfold putG at hx
  by_cases he : t = s
  · rw [if_pos he] at hx; cases hx
  · rw [if_neg he] at hx; exact ⟨he, hx⟩
theorem DEnd.mapDel (h : DAt w b mb n G d) (s : ByteArray) (hm : MapG w' mb n (putG G s none)) (gr : w.grownBy w' (some mb)) : DEnd b mb G n { d with F := putE d.F s none } w w' :=
  ⟨putG G s none, h.mapDel s hm gr, Chg.of_row gr (fun i hi _ => by injection hi with hi; exact .inr (.inl hi.symm)), fun t x hx => .inl ⟨t, (putG_old s t x hx).2⟩⟩
end
def newD : Dk := ⟨fun _ => none, false, 0, false, 0⟩
theorem newD_at (w : World) : DAt ((w.alloc (.map #[] 0)).alloc (.cells #[.map (some w.heap.size), .bool false, .int .i64 0, .bool false, .int .i64 0] 57)) (w.heap.size + 1) w.heap.size 0 (fun _ => none) newD := by
  have hb := Blk.new (w.alloc (.map #[] 0)) 57 [.map (some w.heap.size), .bool false, .int .i64 0, .bool false, .int .i64 0]
  have e : (w.alloc (.map #[] 0)).heap.size = w.heap.size + 1 := by simp
  rw [e] at hb
  exact ⟨hb, (MapG.made w).kept (World.grownBy_alloc _ _ none) (by simp), (fun s g h => by cases h), (fun _ _ => rfl), (fun s t g h => by cases h), (fun s g h => by cases h), (by omega), Nat.zero_le _, Nat.zero_le _, Nat.zero_le _⟩
set_option maxRecDepth 100000 in
theorem New_any (w : World) : Calls Try.prog 11 #[] w fun e w' => e = .returned (.pointer (some ⟨w.heap.size + 1, 0, none⟩)) ∧ DAt w' (w.heap.size + 1) w.heap.size 0 (fun _ => none) newD ∧ w.grownBy w' none := by
  have hmm := @run_makeMap Try.prog
  go_enter Try.func11, Try.ntmps11
  go_wp2
  go_ret
  exact ⟨rfl, newD_at w, grow_alloc w _ (World.grownBy_alloc _ _ _)⟩
set_option maxRecDepth 100000 in
theorem Down_any (b mb n : Nat) (G : ByteArray → Option Nat) (d : Dk) (w : World) (h : DAt w b mb n G d) :
    Calls Try.prog 22 #[.pointer (some ⟨b, 0, none⟩)] w fun e w' => e = .returned (.bool d.down) ∧ w = w' := by
  have c3 := h.c3
  go_enter Try.func22, Try.ntmps22
  go_wp2
  go_ret
  exact ⟨rfl, rfl⟩
set_option maxRecDepth 100000 in
theorem Steps_any (b mb n : Nat) (G : ByteArray → Option Nat) (d : Dk) (w : World) (h : DAt w b mb n G d) :
    Calls Try.prog 26 #[.pointer (some ⟨b, 0, none⟩)] w fun e w' => e = .returned (.int .i64 d.steps) ∧ w = w' := by
  have c4 := h.c4
  go_enter Try.func26, Try.ntmps26
  go_wp2
  go_ret
  exact ⟨rfl, rfl⟩
def fuseD (d : Dk) (n : Int) : Dk := { d with lit := decide (0 ≤ n), fuse := n.toNat }
set_option maxRecDepth 100000 in
theorem Fuse_any (b mb n : Nat) (G : ByteArray → Option Nat) (d : Dk) (k : Int) (w : World) (h : DAt w b mb n G d) (hk : k ≤ 9223372036854775807) :
    Calls Try.prog 28 #[.pointer (some ⟨b, 0, none⟩), .int .i64 k] w fun e w' => e = .returned (.tuple #[]) ∧ DEnd b mb G n (fuseD d k) w w' := by
  have c1 := h.c1
  have c2 := h.c2
  have f1 := h.fr 1
  have f2 := h.fr 2
  have H := Lib.hid h
  have hs := h.s1
  have hf := h.f1
  have HS := Lib.hid hs
  have HF := Lib.hid hf
  clear h hs hf
  by_cases h0 : 0 ≤ k
  · obtain ⟨j, rfl⟩ : ∃ j : Nat, k = (j : Int) := ⟨k.toNat, by omega⟩
    have HD : Hid (fuseD d (j : Int) = { d with lit := true, fuse := j }) := by show _ = _; unfold fuseD; rw [decide_eq_true h0, Int.toNat_natCast]
    have hj : Hid (j ≤ 9223372036854775807) := by show _ ≤ _; omega
    have e1 : decide ((0 : Int) ≤ (j : Int)) = true := decide_eq_true h0
    have e2 : max (j : Int) 0 = (j : Int) := by omega
    clear hk h0
    go_enter Try.func28, Try.ntmps28
    go_wp2
    go_end0
    refine ⟨rfl, ?_⟩
    rw [HD.out]
    have k1 := DEnd.setb H.out 1 (.bool true) { d with lit := true } rfl HF.out HS.out rfl
    exact k1.more fun G' h' => DEnd.setb h' 2 _ _ rfl hj.out HS.out rfl
  · have HD : Hid (fuseD d k = { d with lit := false, fuse := 0 }) := by show _ = _; unfold fuseD; rw [decide_eq_false h0, show k.toNat = 0 by omega]
    have e1 : decide (0 ≤ k) = false := decide_eq_false h0
    have e2 : max k 0 = 0 := by omega
    have e3 : k < 0 := by omega
    clear hk h0
    go_enter Try.func28, Try.ntmps28
    go_wp2
    go_end0
    refine ⟨rfl, ?_⟩
    rw [HD.out]
    have k1 := DEnd.setb H.out 1 (.bool false) { d with lit := false } rfl HF.out HS.out rfl
    exact k1.more fun G' h' => DEnd.setb h' 2 _ _ rfl (Nat.zero_le _) HS.out rfl
def readR (d : Dk) (s : ByteArray) : ByteArray × Bool := if d.down then (⟨#[]⟩, false) else match d.F s with | none => (⟨#[]⟩, false) | some e => (e.l ++ e.w, true)
set_option maxRecDepth 100000 in
set_option maxHeartbeats 1000000 in
theorem Read_any (b mb n : Nat) (G : ByteArray → Option Nat) (d : Dk) (s : ByteArray) (w : World) (h : DAt w b mb n G d) (hs : s.size ≤ maxLen) :
    Calls Try.prog 19 #[.pointer (some ⟨b, 0, none⟩), .string s] w fun e w' => e = .returned (.tuple #[.string (readR d s).1, .bool (readR d s).2]) ∧ w.grownBy w' none := by
  have c0 := h.c0
  have c3 := h.c3
  have hlk := h.map.look s hs
  cases hd : d.down
  · rw [hd] at c3
    cases hg : G s with
    | none =>
      have HR : Hid (readR d s = (⟨#[]⟩, false)) := by show _ = _; unfold readR; rw [hd, h.non s hg]; rfl
      rw [hg] at hlk
      unfold Pp at hlk
      clear hd hg h hs
      go_enter Try.func19, Try.ntmps19
      go_wp2
      go_ret2
      exact ⟨by rw [HR.out]; rfl, grow_refl _ _⟩
    | some g =>
      obtain ⟨e, he, hb, hz⟩ := h.ent s g hg
      have HR : Hid (readR d s = (e.l ++ e.w, true)) := by show _ = _; unfold readR; rw [hd, he]; rfl
      rw [hg] at hlk
      unfold Pp at hlk
      have HH := Lib.hid (has_any g e w hb hz)
      clear hd hg h hs he hz
      go_enter Try.func19, Try.ntmps19
      go_wp2_with fail
      refine HH.out.mono ?_
      rintro e' w1 ⟨rfl, g1⟩
      go_wp2
      go_ret2
      exact ⟨by rw [HR.out]; rfl, g1⟩
  · have HR : Hid (readR d s = (⟨#[]⟩, false)) := by show _ = _; unfold readR; rw [hd]; rfl
    rw [hd] at c3
    clear hd h hs
    go_enter Try.func19, Try.ntmps19
    go_wp2
    go_ret2
    exact ⟨by rw [HR.out]; rfl, grow_refl _ _⟩
set_option maxRecDepth 100000 in
theorem Down_nil (w : World) : Calls Try.prog 22 #[.pointer none] w fun e w' => e = .returned (.bool false) ∧ w = w' := by
  go_enter Try.func22, Try.ntmps22
  go_wp2
  go_ret
  exact ⟨rfl, rfl⟩
def stepOfC (d : Dk) (s : ByteArray) : Int := if refC d s ≠ 0 then refC d s else if (d.F s).isNone then 51 else stepC d
def stepOfD (d : Dk) (s : ByteArray) : Dk := if refC d s ≠ 0 then d else if (d.F s).isNone then d else stepD d
set_option maxRecDepth 100000 in
set_option maxHeartbeats 1000000 in
theorem stepOf_any (b mb n : Nat) (G : ByteArray → Option Nat) (d : Dk) (s : ByteArray) (w : World) (h : DAt w b mb n G d) (hs : s.size ≤ maxLen) (hst : d.steps < 1000000) :
    Calls Try.prog 46 #[.pointer (some ⟨b, 0, none⟩), .string s] w fun e w' => e = .returned (.int .i64 (stepOfC d s)) ∧ DEnd b mb G n (stepOfD d s) w w' := by
  have c0 := h.c0
  have hlk := h.map.look s hs
  have H := Lib.hid h
  have RF := Lib.hid (refuses_any b mb n G d s w h hs)
  have SP := Lib.hid (step_any b mb n G d w h hst)
  by_cases hr : refC d s = 0
  · cases hg : G s with
    | none =>
      have HC : Hid (stepOfC d s = 51 ∧ stepOfD d s = d) := by
        refine ⟨?_, ?_⟩
        · unfold stepOfC; rw [if_neg (fun x => x hr), h.non s hg]; rfl
        · unfold stepOfD; rw [if_neg (fun x => x hr), h.non s hg]; rfl
      have HR := Lib.hid hr
      rw [hg] at hlk
      unfold Pp at hlk
      clear hr hg h hs hst
      go_enter Try.func46, Try.ntmps46
      go_wp2_with fail
      refine RF.out.mono ?_
      rintro e w1 ⟨rfl, rfl⟩
      rw [HR.out]
      go_wp2
      go_ret
      exact ⟨by rw [HC.out.1]; rfl, by rw [HC.out.2]; exact DEnd.same H.out (grow_refl _ _)⟩
    | some g =>
      obtain ⟨e, he, hb, hz⟩ := h.ent s g hg
      have HC : Hid (stepOfC d s = stepC d ∧ stepOfD d s = stepD d) := by
        refine ⟨?_, ?_⟩
        · unfold stepOfC; rw [if_neg (fun x => x hr), he]; rfl
        · unfold stepOfD; rw [if_neg (fun x => x hr), he]; rfl
      have HR := Lib.hid hr
      rw [hg] at hlk
      unfold Pp at hlk
      clear hr hg h hs hst he hz
      go_enter Try.func46, Try.ntmps46
      go_wp2_with fail
      refine RF.out.mono ?_
      rintro e w1 ⟨rfl, rfl⟩
      rw [HR.out]
      go_wp2_with fail
      refine SP.out.mono ?_
      rintro e w1 ⟨rfl, hE⟩
      have hE2 := Lib.hid (DEnd.of_b hE.1 hE.2)
      clear hE
      go_wp2
      go_ret
      exact ⟨by rw [HC.out.1]; rfl, by rw [HC.out.2]; exact hE2.out⟩
  · have HC : Hid (stepOfC d s = refC d s ∧ stepOfD d s = d) := by
      unfold stepOfC stepOfD
      rw [if_pos hr, if_pos hr]
      exact ⟨rfl, rfl⟩
    have e1 : (refC d s != 0) = true := by simpa using hr
    clear hr h hs hst
    go_enter Try.func46, Try.ntmps46
    go_wp2_with fail
    refine RF.out.mono ?_
    rintro e w1 ⟨rfl, rfl⟩
    go_wp2
    go_ret
    exact ⟨by rw [HC.out.1]; rfl, by rw [HC.out.2]; exact DEnd.same H.out (grow_refl _ _)⟩
/-- Behind a step that was done the files are as they were. -/
theorem stepD_F (d : Dk) : (stepD d).F = d.F := by unfold stepD; split <;> rfl
theorem stepOfD_F (d : Dk) (s : ByteArray) : (stepOfD d s).F = d.F := by unfold stepOfD; split; rfl; split; rfl; exact stepD_F d
def removeD (d : Dk) (s : ByteArray) : Dk := if stepOfC d s = 0 then { stepOfD d s with F := putE d.F s none } else stepOfD d s
set_option maxRecDepth 100000 in
set_option maxHeartbeats 1000000 in
theorem Remove_any (b mb n : Nat) (G : ByteArray → Option Nat) (d : Dk) (s : ByteArray) (w : World) (h : DAt w b mb n G d) (hs : s.size ≤ maxLen) (hst : d.steps < 1000000) :
    Calls Try.prog 29 #[.pointer (some ⟨b, 0, none⟩), .string s] w fun e w' => e = .returned (.int .i64 (stepOfC d s)) ∧ DEnd b mb G n (removeD d s) w w' := by
  have SO := Lib.hid (stepOf_any b mb n G d s w h hs hst)
  have HS := Lib.hid hs
  clear h hst hs
  by_cases hr : stepOfC d s = 0
  · have HC : Hid (removeD d s = { stepOfD d s with F := putE (stepOfD d s).F s none }) := by show _ = _; unfold removeD; rw [if_pos hr, stepOfD_F]
    have HR := Lib.hid hr
    clear hr
    go_enter Try.func29, Try.ntmps29
    go_wp2_with fail
    refine SO.out.mono ?_
    rintro e w1 ⟨rfl, hE⟩
    rw [HR.out]
    obtain ⟨G1, h1, x1, x2⟩ := hE
    have X1 := Lib.hid x1
    have X2 := Lib.hid x2
    have c0 := h1.c0
    have H1 := Lib.hid h1
    clear h1 x1 x2
    go_wp2_with (refine wpList_delG rfl _ _ rfl mb n G1 rfl H1.out.map s rfl HS.out ?_)
    intro w2 hm g2
    have HE := Lib.hid (DEnd.after X1.out X2.out (DEnd.mapDel H1.out s hm g2))
    clear hm g2
    go_wp2
    go_ret
    exact ⟨by rw [HR.out]; rfl, by rw [HC.out]; exact HE.out⟩
  · have HC : Hid (removeD d s = stepOfD d s) := by show _ = _; unfold removeD; rw [if_neg hr]
    have e1 : (stepOfC d s == 0) = false := by simpa using hr
    clear hr
    go_enter Try.func29, Try.ntmps29
    go_wp2_with fail
    refine SO.out.mono ?_
    rintro e w1 ⟨rfl, hE⟩
    go_wp2
    go_ret
    exact ⟨rfl, by rw [HC.out]; exact hE⟩
def syncE (e : Ent) : Ent := ⟨(settleE e (e.w.size : Int)).l, (settleE e (e.w.size : Int)).w, true⟩
def syncD (d : Dk) (s : ByteArray) : Dk := if stepOfC d s = 0 then { stepOfD d s with F := putE d.F s ((d.F s).map syncE) } else stepOfD d s
theorem settle_sz (e : Ent) (n : Int) : (settleE e n).sz ≤ e.sz := by
  unfold settleE Ent.sz
  simp only [ByteArray.size_append, ByteArray.size_extract]
  show _ + 0 ≤ _
  omega
theorem stepOf_zero {d : Dk} {s : ByteArray} (h : stepOfC d s = 0) : ∃ e, d.F s = some e := by
  unfold stepOfC at h
  split at h
  · rename_i x; exact absurd h x
  · cases hf : d.F s with
    | none => rw [hf] at h; simp at h
    | some e => exact ⟨e, rfl⟩
set_option maxRecDepth 100000 in
set_option maxHeartbeats 2000000 in
theorem Sync_any (b mb n : Nat) (G : ByteArray → Option Nat) (d : Dk) (s : ByteArray) (w : World) (h : DAt w b mb n G d) (hs : s.size ≤ maxLen) (hst : d.steps < 1000000) :
    Calls Try.prog 27 #[.pointer (some ⟨b, 0, none⟩), .string s] w fun e w' => e = .returned (.int .i64 (stepOfC d s)) ∧ DEnd b mb G n (syncD d s) w w' := by
  have SO := Lib.hid (stepOf_any b mb n G d s w h hs hst)
  have HS := Lib.hid hs
  clear h hst hs
  by_cases hr : stepOfC d s = 0
  · obtain ⟨e, he⟩ := stepOf_zero hr
    have HC : Hid (syncD d s = { stepOfD d s with F := putE (stepOfD d s).F s (some (syncE e)) }) := by show _ = _; unfold syncD; rw [if_pos hr, stepOfD_F, he]; rfl
    have HR := Lib.hid hr
    have HEE : Hid ((stepOfD d s).F s = some e) := by show _ = _; rw [stepOfD_F, he]
    clear hr he
    go_enter Try.func27, Try.ntmps27
    go_wp2_with fail
    refine SO.out.mono ?_
    rintro e1 w1 ⟨rfl, hE⟩
    rw [HR.out]
    obtain ⟨G1, h1, x1, x2⟩ := hE
    have X1 := Lib.hid x1
    have X2 := Lib.hid x2
    have c0 := h1.c0
    have H1 := Lib.hid h1
    have hlk := h1.map.look s HS.out
    cases hg : G1 s with
    | none => have := h1.non s hg; rw [HEE.out] at this; cases this
    | some g =>
      obtain ⟨e', he', hb, hz⟩ := h1.ent s g hg
      obtain rfl : e = e' := by rw [HEE.out] at he'; injection he'
      rw [hg] at hlk
      unfold Pp at hlk
      have HG := Lib.hid hg
      have d0 := hb.c0
      have d1 := hb.c1
      have HB := Lib.hid hb
      have HZ := Lib.hid hz
      clear h1 x1 x2 hg he' hb hz
      go_wp2_with fail
      go_region_law (((with_reducible show (if Region.wanted (Oper.mk _ (Op.call { callee := .value (.func 41), args := _, argTypes := _ }) _ _ _ _) _ = true then _ else _)); refine step_wanted rfl ?_; go_simp; go_at_call 41; refine (settle_any g e (e.w.size : Int) _ (Blk.drew HB.out) HZ.out).mono ?_; rintro e2 w2 ⟨rfl, hb2, g2⟩; have m2 := hb2.c2; have n2 := hb2.fr 2))
      all_goals
        have HE := Lib.hid (DEnd.after X1.out X2.out (DEnd.file H1.out s g HG.out (syncE e) (hb2.set2 true) (Nat.le_trans (settle_sz e _) HZ.out) (grow_same (grow_drew _ g2) (grow_set w2 ⟨g, 2, none⟩ (.bool true)))))
        clear hb2 g2
        go_wp2
        go_ret
        exact ⟨by rw [HR.out]; rfl, by rw [HC.out]; exact HE.out⟩
  · have HC : Hid (syncD d s = stepOfD d s) := by show _ = _; unfold syncD; rw [if_neg hr]
    have e1 : (stepOfC d s == 0) = false := by simpa using hr
    clear hr
    go_enter Try.func27, Try.ntmps27
    go_wp2_with fail
    refine SO.out.mono ?_
    rintro e w1 ⟨rfl, hE⟩
    go_wp2
    go_ret
    exact ⟨rfl, by rw [HC.out]; exact hE⟩
end Go.Proofs.Ytgfmmchmkfboaaa
