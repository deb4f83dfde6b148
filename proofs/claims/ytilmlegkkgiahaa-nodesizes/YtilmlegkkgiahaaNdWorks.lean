/- The law's works answers true. No conditions. -/
import Derived.Test.YtilmlegkkgiahaaNdDec
import Derived.Lib.SlBytesConst
namespace Go.Proofs.Ytilmlegkkgiahaa
open Go.RowKit Go.Lib
set_option linter.unusedVariables false
set_option maxRecDepth 20000

def wk : Nd := ⟨true, [⟨[97], [120], 0, 1⟩, ⟨[98], [], 9, 100⟩], [], []⟩
theorem wk_err : wk.err = 0 := by decide
def wk14 : List UInt8 := [1, 2, 0, 1, 97, 1, 0, 120, 1, 98, 100, 0, 9, 0]
theorem wk_take : wk.load.take 14 = wk14 := by decide
theorem lit1_bv {w w' : World} {c : UInt8} (B : Below (w.alloc (.cells #[.int .u8 (c.toNat : Int)] 5 (1, 2))).heap.size (w.alloc (.cells #[.int .u8 (c.toNat : Int)] 5 (1, 2))) w') : BV w' (fun _ => True) (.slice (some ⟨w.heap.size, 0, none⟩) 1 1) [c] := by
  have h : BV (w.alloc (.cells #[.int .u8 (c.toNat : Int)] 5 (1, 2))) (fun _ => True) (.slice (some ⟨w.heap.size, 0, none⟩) 1 1) [c] := by
    refine ⟨_, 1, rfl, Or.inr ⟨w.heap.size, 0, rfl, trivial, fun i hi => ?_⟩, Nat.le_refl _, fun h => (by cases h), by simp⟩
    match i, hi with
    | 0, _ =>
      have h := heap_alloc_new w (.cells #[.int .u8 (c.toNat : Int)] 5 (1, 2))
      show World.cell? _ ⟨w.heap.size, 0, none⟩ = _
      simp only [World.cell?, h]
      rfl
  exact h.below B
def wkC (b : Nat) : Obj := .cells #[.slice (some ⟨b, 0, none⟩) 1 1, .slice (some ⟨b + 1, 0, none⟩) 1 1, .int .i64 0, .int .i64 1, .slice (some ⟨b + 2, 0, none⟩) 1 1, .slice none 0 0, .int .i64 9, .int .i64 100] 58
def wkW (w : World) : World := (((w.alloc (.cells #[.int .u8 97] 5 (1, 2))).alloc (.cells #[.int .u8 120] 5 (1, 2))).alloc (.cells #[.int .u8 98] 5 (1, 2))).alloc (wkC w.heap.size)
theorem wk_below (w : World) : Below w.heap.size w (wkW w) := ((((Below.refl _ _).alloc (Nat.le_refl _) _).alloc (by simp) _).alloc (by simp; omega) _).alloc (by simp; omega) _
theorem wk_nv (w : World) : NV (wkW w) (fun _ => True) (.slice (some ⟨w.heap.size + 3, 0, none⟩) 2 2) (.slice none 0 0) (.slice none 0 0) wk := by
  have b1 : BV (wkW w) (fun _ => True) (.slice (some ⟨w.heap.size, 0, none⟩) 1 1) [97] := lit1_bv (c := 97) (((((Below.refl _ _).alloc (Nat.le_refl _) _)).alloc (by first | (simp; done) | (simp; omega)) _).alloc (by first | (simp; done) | (simp; omega)) _)
  have b2 : BV (wkW w) (fun _ => True) (.slice (some ⟨w.heap.size + 1, 0, none⟩) 1 1) [120] := by
    have h := lit1_bv (w := w.alloc (.cells #[.int .u8 97] 5 (1, 2))) (w' := wkW w) (c := 120) ((((Below.refl _ _).alloc (Nat.le_refl _) _)).alloc (by first | (simp; done) | (simp; omega)) _)
    rw [size1] at h
    exact h
  have b3 : BV (wkW w) (fun _ => True) (.slice (some ⟨w.heap.size + 2, 0, none⟩) 1 1) [98] := by
    have h := lit1_bv (w := (w.alloc (.cells #[.int .u8 97] 5 (1, 2))).alloc (.cells #[.int .u8 120] 5 (1, 2))) (w' := wkW w) (c := 98) ((Below.refl _ _).alloc (Nat.le_refl _) _)
    rw [size1, size1] at h
    exact h
  refine ⟨⟨_, 2, rfl, Or.inr ⟨w.heap.size + 3, 0, rfl, trivial, fun i hi => ?_⟩, Nat.le_refl _, fun h => (by cases h), by decide⟩, KsV.nil _ _, DsV.nil _ _⟩
  match i, hi with
  | 0, _ =>
    refine ⟨_, _, ?_, ?_, ?_, ?_, b1, b2, rfl, rfl, i64_zero, show i64b 1 from by unfold i64b; omega⟩ <;> simp [wkW, wkC, wk, go_sem]
  | 1, _ =>
    refine ⟨_, _, ?_, ?_, ?_, ?_, b3, BV.nil _ _, rfl, rfl, show i64b 9 from by unfold i64b; omega, show i64b 100 from by unfold i64b; omega⟩ <;> simp [wkW, wkC, wk, go_sem]
theorem OwnB.cut14 {w : World} {base : Nat} {p : Option Addr} {m c : Nat} {l : List UInt8} (o : OwnB w base (.slice p m c) l) (hl : l.length = 508) : BV w (base ≤ ·) (.slice p 14 c) (l.take 14) := by
  have h := o.bv (by omega)
  obtain ⟨p', c', e, hb, hc, hp, hl'⟩ := h
  simp only [Value.slice.injEq] at e
  obtain ⟨rfl, _, rfl⟩ := e
  have hlen : (l.take 14).length = 14 := by rw [List.length_take]; omega
  exact ⟨p, c, by rw [hlen], hb.take 14, by rw [hlen]; omega, fun h0 => by have := hp h0; omega, by rw [hlen]; omega⟩
theorem wk_lit (w : World) : BV (w.alloc (.cells #[.int .u8 1, .int .u8 2, .int .u8 0, .int .u8 1, .int .u8 97, .int .u8 1, .int .u8 0, .int .u8 120, .int .u8 1, .int .u8 98, .int .u8 100, .int .u8 0, .int .u8 9, .int .u8 0] 5)) (fun _ => True) (.slice (some ⟨w.heap.size, 0, none⟩) 14 14) wk14 := lit_bv w wk14 _ rfl (by decide)
set_option maxHeartbeats 8000000 in
theorem works_any (w : World) : Calls Try.prog 25 #[] w fun e w' => e = .returned (.bool true) ∧ Below w.heap.size w w' := by
  have hc1 := run_convert_bytes_const (P := Try.prog) w 31 5 #[.int .u8 97] 1 1 Try.underlying31 Try.underlying5
  have hc2 := run_convert_bytes_const (P := Try.prog) (w.alloc (.cells #[.int .u8 97] 5 (1, 2))) 31 5 #[.int .u8 120] 1 1 Try.underlying31 Try.underlying5
  have hc3 := run_convert_bytes_const (P := Try.prog) ((w.alloc (.cells #[.int .u8 97] 5 (1, 2))).alloc (.cells #[.int .u8 120] 5 (1, 2))) 31 5 #[.int .u8 98] 1 1 Try.underlying31 Try.underlying5
  rw [size1] at hc2
  rw [size1, size1] at hc3
  simp only [List.size_toArray, List.length_cons, List.length_nil, Nat.zero_add, Nat.reduceAdd] at hc1 hc2 hc3
  have HB := hid (wk_below w)
  have A1 : Hid (Calls Try.prog 10 #[.agg #[.bool true, .slice (some ⟨w.heap.size + 3, 0, none⟩) 2 2, .slice none 0 0, .slice none 0 0]] (wkW w) fun e w' => Below (wkW w).heap.size (wkW w) w' ∧ ∃ p c, e = .returned (.tuple #[.slice p 508 c, .int .i64 0]) ∧ OwnB w' (wkW w).heap.size (.slice p 508 c) wk.load ∧ 508 ≤ c) := by
    refine (encode_any _ _ _ wk _ (wk_nv w)).mono ?_
    rintro e w' ⟨B, h⟩
    rcases h with ⟨_, v, rfl, O⟩ | ⟨h, _⟩
    · obtain ⟨p, c, rfl, hc, _⟩ := O.form
      have hl := Nd.load_len ((Nd.right_iff wk).2 wk_err)
      rw [hl] at O hc ⊢
      exact ⟨B, p, c, rfl, O, hc⟩
    · exact absurd wk_err h
  have A2 := hid (fun w' v (G : Nat → Prop) (h : BV w' G v wk.load) => ndecode_any v wk.load w' h)
  unfold dnEnd at A2
  have h3 : (⟨true, [], [], []⟩ : Nd).err = 3 := by decide
  have A3 := hid (fun w' => check_any (F := fun _ => True) (.slice none 0 0) (.slice none 0 0) (.slice none 0 0) ⟨true, [], [], []⟩ w' (NV.none _ _ true))
  rw [h3] at A3
  unfold wkW wkC at *
  go_enter Try.func25, Try.ntmps25
  go_wp2_with (first
    | (go_at_call 10; with_reducible refine A1.out.mono ?_; rintro e w2 ⟨b2, p, c, rfl, O2, hc⟩; have HO2 := hid O2; have HB2 := hid b2; clear O2 b2)
    | fail)
  have hl := Nd.load_len ((Nd.right_iff wk).2 wk_err)
  have HBb : Hid (Below w.heap.size w w2) := HB.out.trans (HB2.out.mono HB.out.size)
  have HCut := hid (HO2.out.cut14 hl)
  rw [wk_take] at HCut
  have HLit := hid (wk_lit w2)
  have L1 : Below w2.heap.size w2 (w2.alloc (.cells #[.int .u8 1, .int .u8 2, .int .u8 0, .int .u8 1, .int .u8 97, .int .u8 1, .int .u8 0, .int .u8 120, .int .u8 1, .int .u8 98, .int .u8 100, .int .u8 0, .int .u8 9, .int .u8 0] 5)) := alloc_below _ _
  have x1 := (HCut.out.below (drew_below w2)).conv
  have x2 := ((HCut.out.below L1).below (drew_below _)).conv
  have x3 := (HLit.out.below (drew_below _)).conv
  clear hl hc1 hc2 hc3 A1 HB2 HB
  generalize hww : (((w.alloc _).alloc _).alloc _).alloc _ = W4 at *
  clear hww
  go_region
  all_goals
    have BD := hid L1.drew
    clear x1 x2 x3 HCut HLit L1
    generalize World.drew _ = w3 at *
    have HO3 := hid (HO2.out.below BD.out)
    have A4 := hid (A2.out w3 _ _ (HO3.out.bv (by rw [Nd.load_len ((Nd.right_iff wk).2 wk_err)]; decide)))
    rw [decN_load ((Nd.right_iff wk).2 wk_err)] at A4
    replace A4 : Hid (Calls Try.prog 19 #[.slice p 508 c] w3 fun e w' => Below w3.heap.size w3 w' ∧ ∃ g off cc kv dv, e = .returned (.tuple #[.agg #[.bool true, .slice (some ⟨g, off, none⟩) 2 cc, kv, dv], .int .i64 0]) ∧ (∃ a b, kv = .slice a 0 b) ∧ (∃ a b, dv = .slice a 0 b) ∧ w'.cell? ⟨g, off + 6, none⟩ = some (.int .i64 9)) := by
      refine A4.out.mono ?_
      rintro e w' ⟨B, n, er, cv, kv, dv, rfl, N, hd⟩
      rcases hd with ⟨h1, rfl⟩ | ⟨h1, _⟩
      · obtain rfl := Option.some.inj h1
        obtain ⟨⟨pc, cc, rfl, hC, _⟩, ⟨pk, ck, hk, _⟩, ⟨pd, cd, hd, _⟩⟩ := N
        obtain ⟨g, off, _, _, _, _, rfl, _, _, c2, _⟩ := hC.get (i := 1) (by decide)
        exact ⟨B, g, off, cc, kv, dv, rfl, ⟨pk, ck, hk⟩, ⟨pd, cd, hd⟩, c2⟩
      · cases h1
    go_wp2_with (first
      | (go_at_call 19; with_reducible refine A4.out.mono ?_; rintro e w4 ⟨b4, g, off, cc, kv, dv, rfl, ⟨pk, ck, hk⟩, ⟨pd, cd, hd⟩, c9⟩; subst hk hd; have B5 := alloc_below w4 (.cells #[.bool true, .slice (some ⟨g, off, none⟩) 2 cc, .slice pk 0 ck, .slice pd 0 cd] 29); have d9 := below_cell B5 c9; have HB4 := hid (b4.trans (B5.mono b4.size)); have A5 := hid (A3.out (w4.alloc (.cells #[.bool true, .slice (some ⟨g, off, none⟩) 2 cc, .slice pk 0 ck, .slice pd 0 cd] 29))); clear b4 B5)
      | (go_at_call 14; with_reducible refine A5.out.mono ?_; rintro e w5 ⟨rfl, b5⟩; have HB5 := hid b5; clear b5)
      | fail)
    go_ret
    exact ⟨rfl, HBb.out.trans ((BD.out.trans ((HB4.out.trans (HB5.out.mono HB4.out.size)).mono BD.out.size)).mono HBb.out.size)⟩
end Go.Proofs.Ytilmlegkkgiahaa
