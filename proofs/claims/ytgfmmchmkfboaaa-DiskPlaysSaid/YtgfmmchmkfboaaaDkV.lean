/- Stage 5: Copy. -/
import Derived.Test.YtgfmmchmkfboaaaDkU
namespace Go.Proofs.Ytgfmmchmkfboaaa
open Go.RowKit Go.Maps
set_option linter.unusedVariables false
def twinF (d : Dk) (left : Lit → Bool) : ByteArray → Option Ent := fun x => if left (.string x.data.toList) then none else d.F x
theorem twinF_step (d : Dk) (left : Lit → Bool) (x : List UInt8) (e : Ent) (he : d.F (nm x) = some e) : putE (twinF d left) (nm x) (some e) = twinF d (fun z => left z && !z.sameKey (.string x)) := by
  funext t
  unfold putE twinF
  by_cases h : t = nm x
  · subst h
    rw [if_pos rfl, he]
    simp [Lit.sameKey]
  · rw [if_neg h]
    have hn : t.data.toList ≠ x := fun y => h (by rw [← y])
    simp [Lit.sameKey, hn]
/-- A drive's copy under way. -/
def TwinI (d : Dk) (n0 k : Nat) (b2 mb2 : Nat) (left : Lit → Bool) (wr : World) : Prop := ∃ G2, DAt wr b2 mb2 k G2 ⟨twinF d left, d.lit, d.fuse, d.down, d.steps⟩ ∧ ∀ s g, G2 s = some g → n0 ≤ g
def CpR (mb n : Nat) (D0 : DataW Unit) (d : Dk) (w wr : World) : Prop := ∃ (left : Lit → Bool) (cnt k : Nat), wr.ranges Try.prog 9 Rp mb (w.heap.size + 2) n D0 left cnt ∧ k + cnt ≤ Maps.size D0 ∧ TwinI d w.heap.size k w.heap.size (w.heap.size + 1) left wr ∧ w.grownBy wr none
def CopyE (n : Nat) (d : Dk) (w : World) (e : Ending) (w' : World) : Prop := ∃ b2 mb2 n2 G2, e = .returned (.pointer (some ⟨b2, 0, none⟩)) ∧ DAt w' b2 mb2 n2 G2 d ∧ n2 ≤ n ∧ w.heap.size ≤ b2 ∧ w.heap.size ≤ mb2 ∧ (∀ s g, G2 s = some g → w.heap.size ≤ g) ∧ w.grownBy w' none
theorem twin_at (w : World) (F : ByteArray → Option Ent) (d : Dk) (hF : ∀ x, F x = none) (hf : d.fuse ≤ 9223372036854775807) (hs : d.steps ≤ 1000000) :
    DAt ((w.alloc (.cells #[.map (some (w.heap.size + 1)), .bool d.lit, .int .i64 d.fuse, .bool d.down, .int .i64 d.steps] 57)).alloc (.map #[] 0)) w.heap.size (w.heap.size + 1) 0 (fun _ => none) ⟨F, d.lit, d.fuse, d.down, d.steps⟩ := by
  have hb := (Blk.new w 57 [.map (some (w.heap.size + 1)), .bool d.lit, .int .i64 d.fuse, .bool d.down, .int .i64 d.steps]).alloc (.map #[] 0)
  have hm := MapG.made (w.alloc (.cells #[.map (some (w.heap.size + 1)), .bool d.lit, .int .i64 d.fuse, .bool d.down, .int .i64 d.steps] 57))
  have e : (w.alloc (.cells #[.map (some (w.heap.size + 1)), .bool d.lit, .int .i64 d.fuse, .bool d.down, .int .i64 d.steps] 57)).heap.size = w.heap.size + 1 := by simp
  rw [e] at hm
  exact ⟨hb, hm, (fun s g h => by cases h), (fun s _ => hF s), (fun s t g h => by cases h), (fun s g h => by cases h), (by omega), Nat.zero_le _, hf, hs⟩
set_option maxRecDepth 100000 in
set_option maxHeartbeats 2000000 in
theorem Copy_any (b mb n : Nat) (G : ByteArray → Option Nat) (d : Dk) (w : World) (h : DAt w b mb n G d) :
    Calls Try.prog 23 #[.pointer (some ⟨b, 0, none⟩)] w (CopyE n d w) := by
  have hmm := @run_makeMap Try.prog
  have c0 := h.c0
  have c1 := h.c1
  have c2 := h.c2
  have c3 := h.c3
  have c4 := h.c4
  have hbl := h.lt
  have H := Lib.hid h
  obtain ⟨D0, hown, hD1, hD2⟩ := h.map
  have HO := Lib.hid hown
  have HD1 := Lib.hid hD1
  have HD2 := Lib.hid hD2
  have HM : Hid (Maps.size D0 ≤ n ∧ n ≤ 1000000 ∧ mb < w.heap.size ∧ b < w.heap.size) := ⟨hown.size_le, h.n1, hown.lt, hbl⟩
  clear h hown hD1 hD2
  unfold CopyE
  go_enter Try.func23, Try.ntmps23
  have GA : Hid (w.grownBy ((w.alloc (.cells #[.map (some (w.heap.size + 1)), .bool d.lit, .int .i64 d.fuse, .bool d.down, .int .i64 d.steps] 57)).alloc (.map #[] 0)) none) := grow_alloc w _ (World.grownBy_alloc _ _ _)
  have HT : Hid (DAt ((w.alloc (.cells #[.map (some (w.heap.size + 1)), .bool d.lit, .int .i64 d.fuse, .bool d.down, .int .i64 d.steps] 57)).alloc (.map #[] 0)) w.heap.size (w.heap.size + 1) 0 (fun _ => none) ⟨twinF d (Maps.has D0), d.lit, d.fuse, d.down, d.steps⟩) :=
    twin_at w _ d (fun x => by
      unfold twinF
      rw [HD2.out x]
      cases hg : G x with
      | none => exact H.out.non x hg
      | some g => rfl) H.out.f1 H.out.s1
  go_wp2_with (at_range; refine wpList_range_own _ rfl _ 55 rfl 9 67 strKeyed Try.underlying55 Rp mb n _ rfl (HO.out.kept GA.out (by simp)) ?_
               intro w0 hrg0 hg0 hs0)
  have er : ((w.alloc (.cells #[.map (some (w.heap.size + 1)), .bool d.lit, .int .i64 d.fuse, .bool d.down, .int .i64 d.steps] 57)).alloc (.map #[] 0)).heap.size = w.heap.size + 2 := by simp
  rw [er] at hrg0
  have HG0 := Lib.hid hg0
  have HRG0 := Lib.hid hrg0
  have c0' : w0.cell? ⟨w.heap.size, 0, none⟩ = some (.map (some (w.heap.size + 1))) := (HT.out.keep HG0.out).c0
  clear hs0 c0 c1 c2 c3 c4 hg0 hrg0
  go_frame
  simp only [er]
  clear er
  go_loopw [4] (fun _ wr => CpR mb n D0 d w wr)
    (fun _ wr => wr.rangeLeft mb (w.heap.size + 2))
  case atStart =>
    exact ⟨_, _, 0, HRG0.out, by omega, ⟨fun _ => none, HT.out.keep HG0.out, fun s g h => by cases h⟩, grow_none GA.out HG0.out⟩
  case round =>
    obtain ⟨left, cnt, k, hrg, hcs, hT, hgr⟩ := hrel
    have HRG := Lib.hid hrg
    have HCS := Lib.hid hcs
    have HTI := Lib.hid hT
    have HGR := Lib.hid hgr
    clear hcs hT hgr c0'
    go_wp2_with (at_next; refine wpList_next_ranges _ rfl _ rfl 9 strKeyed Rp encStr Pp (fun key kl hk => by obtain ⟨x, hx, _⟩ := Maps.keyOf_str Try.underlying9 hk; exact ⟨x, hx⟩) (fun v y hv => Rp_inv' hv) mb (w.heap.size + 2) n _ _ _ rfl hrg ?_ ?_)
    · intro hc0 hl0
      obtain ⟨G2, h2, hg2⟩ := HTI.out
      have HF : Hid (DAt wr w.heap.size (w.heap.size + 1) k G2 d) := by
        have : twinF d left = d.F := by
          funext x; unfold twinF; rw [hl0]; rfl
        rw [this] at h2
        exact h2
      have HX := Lib.hid hg2
      clear h2 hg2 hc0 hl0 hrg
      go_wp2_with fail
      go_ret
      exact ⟨_, _, k, G2, rfl, HF.out, by have := HCS.out; have := HM.out; omega, Nat.le_refl _, by omega, HX.out, HGR.out⟩
    · intro x c kl yd yp w2 cnt2 hkey hlk hv hat hrg2 hlt hg2 hs2 hen
      obtain ⟨x', ex, rfl, hxl⟩ := Maps.keyOf_str Try.underlying9 hkey
      obtain rfl : x = x' := encStr_inj ex
      have hGw : w.grownBy w2 none := grow_new HGR.out (by omega) hg2
      have HGW := Lib.hid hGw
      have hyd : yd = Dp c := by
        rw [Rp_mk] at hv
        injection hv with hv
        exact (congrArg Prod.fst hv).symm
      have hGc : G (nm x) = c := by
        have h1 := HD1.out (nm x)
        have h2 : D0.atKey (.string (nm x).data.toList) .nil = yd := hat .nil
        rw [h2, hyd] at h1
        exact (Dp_inj h1).symm
      have hhas : (G (nm x)).isSome = true := by
        rw [← HD2.out (nm x)]
        exact has_true_of_atKey hat
      obtain ⟨g, rfl⟩ : ∃ g, c = some g := by
        rw [hGc] at hhas
        exact Option.isSome_iff_exists.1 hhas
      obtain ⟨e, he, hb, hz⟩ := (H.out.keep hGw).ent (nm x) g hGc
      obtain ⟨T2, ht2, hx2⟩ := HTI.out
      have hT2 := ht2.chg (Chg.of_row (S := fun i => i = w.heap.size + 2) hg2 (fun i hi _ => by injection hi with hi; exact hi.symm)) (fun i hi hr => by
        subst hr
        rcases hi with y | y | ⟨t, y⟩
        · omega
        · omega
        · obtain ⟨_, _, hb', _⟩ := ht2.ent t _ y
          obtain ⟨_, _, _, _, _, _, _, _, _, hit, _⟩ := HRG.out
          have hb2' : wr.heap[w.heap.size + 2]? = some (.cells _ 72 (0, 0)) := hb'
          rw [hit] at hb2'; cases hb2')
      have k0 := hb.c0
      have k1 := hb.c1
      have k2 := hb.c2
      have k3 := hT2.c0
      have hl2 := hT2.lt
      have HB := Lib.hid hb
      have HZ := Lib.hid hz
      have HEE := Lib.hid he
      have HT2 := Lib.hid hT2
      have HX2 := Lib.hid hx2
      have HR2 := Lib.hid hrg2
      have HLT := Lib.hid hlt
      have HSX : Hid ((nm x).size ≤ maxLen) := hxl
      unfold Pp at hen
      clear hs2 hrg hrg2 hlt hg2 hGw hyd hGc hhas hb hz he ht2 hT2 hx2 hkey hlk hv hat hxl
      go_wp2_with (at_mapUpdate; refine wpList_putG _ rfl _ _ _ rfl (w.heap.size + 1) k T2 rfl ((HT2.out.keep (World.grownBy_alloc w2 _ none)).map) (by have := HCS.out; have := HM.out; unfold maxLen; omega) (nm x) w2.heap.size rfl rfl HSX.out ?_
                   intro w5 hm5 g5
                   have HM5 := Lib.hid hm5
                   have HG5 := Lib.hid g5
                   clear hm5 g5)
      go_roundw
      case rel =>
        refine ⟨_, cnt2, k + 1, (HR2.out.alloc _).kept HG5.out (by intro y; injection y with y; have := HM.out; omega) (by intro y; injection y with y; omega), by have := HCS.out; have := HLT.out; omega, ⟨putG T2 (nm x) (some w2.heap.size), ?_, fun s g hs => ?_⟩, ?_⟩
        · have := DAt.mapPut (HT2.out.keep (World.grownBy_alloc w2 (.cells #[.string e.l, .string e.w, .bool e.s] 72) none)) (nm x) w2.heap.size e (Blk.new w2 72 [.string e.l, .string e.w, .bool e.s]) HZ.out (.inr (fun hs => by have := HT2.out.live _ hs; omega)) HM5.out HG5.out (by have := HCS.out; have := HM.out; have := HLT.out; omega)
          rw [← twinF_step d left x e HEE.out]
          exact this
        · unfold putG at hs
          split at hs
          · injection hs with hs; rw [← hs]; exact HGW.out.size
          · exact HX2.out s g hs
        · exact grow_new (grow_then_none HGW.out (World.grownBy_alloc _ _ none)) (by omega) HG5.out
      case measure => rw [((HR2.out.alloc _).kept HG5.out (by intro y; injection y with y; have := HM.out; omega) (by intro y; injection y with y; omega)).left_eq, HRG.out.left_eq]; exact HLT.out
end Go.Proofs.Ytgfmmchmkfboaaa
