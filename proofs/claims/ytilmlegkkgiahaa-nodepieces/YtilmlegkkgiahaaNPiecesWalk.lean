/- The law NodePieces returns true and writes nothing that was there. Conditions: the bytes lie within the reach. -/
import Derived.Test.YtilmlegkkgiahaaNdRPiece
import Derived.Test.YtilmlegkkgiahaaNdOpP
import Derived.Test.YtilmlegkkgiahaaNdLaw
namespace Go.Proofs.Ytilmlegkkgiahaa
open Go.RowKit Go.Lib Go.Sort
set_option linter.unusedVariables false
set_option maxRecDepth 20000

theorem BV.conv_alloc {w : World} {F : Nat → Prop} {v : Value} {l : List UInt8} (h : BV w F v l) (o : Obj) : (convert 31 9 v).run Try.prog (w.alloc o) = .ok (.string ⟨l.toArray⟩) (w.alloc o) := (h.below (alloc_below w o)).conv
set_option maxHeartbeats 4000000 in
theorem npieces_bad {F : Nat → Prop} (v : Value) (l : List UInt8) (next : Int) (w : World) (h : BV w F v l) (hq : pieceOk l next = false) :
    Calls Try.prog 5 #[v, .int .i64 next] w fun e w' => e = .returned (.bool true) ∧ Below w.heap.size w w' := by
  have HX := hid h
  have A1 := hid (clone_any v l w h)
  unfold clEnd at A1
  obtain ⟨p, c, rfl, _, _, _, hl0⟩ := h
  have HL := hid hl0
  have A2 := hid (fun w' (G : Nat → Prop) p' c' (X : BV w' G (.slice p' l.length c') l) => (piece_any p' l c' next w' X).mono (R' := fun e w'' => e = .returned (.tuple #[.slice none 0 0, .int .i64 3]) ∧ Below w'.heap.size w' w'') (fun e w'' ⟨B, q⟩ => by rcases q with ⟨q, _⟩ | ⟨_, q⟩; rw [hq] at q; exact absurd q (by decide); exact ⟨q, B⟩))
  have A3 := hid (fun w' (X : BV w' F (.slice p l.length c) l) => (rpiece_any p l c next w' X).mono (R' := fun e w'' => e = .returned (.tuple #[.slice none 0 0, .int .i64 3]) ∧ Below w'.heap.size w' w'') (fun e w'' ⟨B, q⟩ => by rcases q with ⟨q, _⟩ | ⟨_, q⟩; rw [hq] at q; exact absurd q (by decide); exact ⟨q, B⟩))
  clear hq
  go_enter Try.func5, Try.ntmps5
  go_wp2_with (first
    | (go_at_call 18; with_reducible refine A1.out.mono ?_; rintro e w2 ⟨v2, rfl, o2, b2⟩; obtain ⟨p2, c2, hv2⟩ := o2.formN l.length rfl; subst hv2; have HX2 := hid (HX.out.below b2); have HO2 := hid (o2.bv HL.out); have HB2 := hid b2; have A2' := hid (A2.out _ _ _ _ HO2.out); clear o2 b2)
    | (go_at_call 23; with_reducible refine A2'.out.mono ?_; rintro e w3 ⟨rfl, b3⟩; have HX3 := hid (HX2.out.below b3); have HO3 := hid (HO2.out.below b3); have HB3 := hid (HB2.out.trans (b3.mono HB2.out.size)); have A3' := hid (A3.out _ HX3.out); clear b3)
    | (go_at_call 24; with_reducible refine A3'.out.mono ?_; rintro e w4 ⟨rfl, b4⟩; have v1 := (HX3.out.below b4).conv; have v2 := (HO3.out.below b4).conv; have v3 := (BV.nil w4 F).conv; have HB4 := hid (HB3.out.trans (b4.mono HB3.out.size)); clear b4)
    | fail)
  go_ret
  exact ⟨rfl, HB4.out⟩
set_option maxHeartbeats 4000000 in
theorem npieces_good {F : Nat → Prop} (v : Value) (l : List UInt8) (next : Int) (w : World) (h : BV w F v l) (hq : pieceOk l next = true) :
    Calls Try.prog 5 #[v, .int .i64 next] w fun e w' => e = .returned (.bool true) ∧ Below w.heap.size w w' := by
  have HX := hid h
  have A1 := hid (clone_any v l w h)
  unfold clEnd at A1
  obtain ⟨p, c, rfl, _, _, _, hl0⟩ := h
  have HL := hid hl0
  have A2 := hid (fun w' (G : Nat → Prop) p' c' (X : BV w' G (.slice p' l.length c') l) => (piece_any p' l c' next w' X).mono (R' := fun e w'' => ∃ v, e = .returned (.tuple #[v, .int .i64 0]) ∧ OwnB w'' w'.heap.size v (piece l next) ∧ Below w'.heap.size w' w'') (fun e w'' ⟨B, q⟩ => by rcases q with ⟨_, v, q, O⟩ | ⟨q, _⟩; exact ⟨v, q, O, B⟩; rw [hq] at q; exact absurd q (by decide)))
  have A3 := hid (fun w' (X : BV w' F (.slice p l.length c) l) => (rpiece_any p l c next w' X).mono (R' := fun e w'' => ∃ v, e = .returned (.tuple #[v, .int .i64 0]) ∧ OwnB w'' w'.heap.size v (piece l next) ∧ Below w'.heap.size w' w'') (fun e w'' ⟨B, q⟩ => by rcases q with ⟨_, v, q, O⟩ | ⟨q, _⟩; exact ⟨v, q, O, B⟩; rw [hq] at q; exact absurd q (by decide)))
  have A4 := hid (fun w' (G : Nat → Prop) v' (X : BV w' G v' (piece l next)) => (nopen_any v' _ w' X).mono (R' := fun e w'' => ∃ p c, e = .returned (.tuple #[.slice p l.length c, .int .i64 next, .int .i64 0]) ∧ BV w'' (w'.heap.size ≤ ·) (.slice p l.length c) l ∧ Below w'.heap.size w' w'') (fun e w'' ⟨B, d, x, er, p, c, he, X, q⟩ => by
    rw [opN_piece hq] at q
    rcases q with ⟨q, rfl⟩ | ⟨q, _⟩
    · simp only [Option.some.injEq, Prod.mk.injEq] at q
      obtain ⟨rfl, rfl⟩ := q
      exact ⟨p, c, he, X, B⟩
    · exact absurd q (by simp)))
  have A5 := hid (fun w' (G : Nat → Prop) v' (X : BV w' G v' (piece l next)) => decode_none v' _ w' X (decN_piece hq))
  have HP : Hid ((piece l next).length = 508) := piece_len hq
  generalize piece l next = ld at *
  clear hq
  go_enter Try.func5, Try.ntmps5
  go_wp2_with (first
    | (go_at_call 18; with_reducible refine A1.out.mono ?_; rintro e w2 ⟨v2, rfl, o2, b2⟩; obtain ⟨p2, c2, hv2⟩ := o2.formN l.length rfl; subst hv2; have HX2 := hid (HX.out.below b2); have HO2 := hid (o2.bv HL.out); have HB2 := hid b2; have A2' := hid (A2.out _ _ _ _ HO2.out); clear o2 b2)
    | (go_at_call 23; with_reducible refine A2'.out.mono ?_; rintro e w3 ⟨va, rfl, oa, b3⟩; obtain ⟨pa, ca, hva⟩ := oa.formN 508 HP.out; subst hva; have HA3 := hid (oa.bv (Nat.le_trans (Nat.le_of_eq HP.out) (by decide))); have HX3 := hid (HX2.out.below b3); have HO3 := hid (HO2.out.below b3); have HB3 := hid (HB2.out.trans (b3.mono HB2.out.size)); have A3' := hid (A3.out _ HX3.out); clear b3 oa)
    | (go_at_call 24; with_reducible refine A3'.out.mono ?_; rintro e w4 ⟨vb, rfl, ob, b4⟩; obtain ⟨pb, cb, hvb⟩ := ob.formN 508 HP.out; subst hvb; have v1 := (HX3.out.below b4).conv; have v2 := (HO3.out.below b4).conv; have v3 := (HA3.out.below b4).conv; have v4 := (ob.bv (Nat.le_trans (Nat.le_of_eq HP.out) (by decide))).conv; have HA4 := hid (HA3.out.below b4); have HX4 := hid (HX3.out.below b4); have A4' := hid (A4.out _ _ _ HA4.out); have HB4 := hid (HB3.out.trans (b4.mono HB3.out.size)); clear b4 ob)
    | (go_at_call 21; with_reducible refine A4'.out.mono ?_; rintro e w5 ⟨p5, c5, rfl, x5, b5⟩; have HX5 := hid (HX4.out.below b5); have A5' := hid (A5.out _ _ _ (HA4.out.below b5)); have HC5 := hid x5; have HB5 := hid (HB4.out.trans (b5.mono HB4.out.size)); clear b5 x5 v1 v2 v3 v4)
    | (go_at_call 19; with_reducible refine A5'.out.mono ?_; rintro e w6 ⟨b6, p6, c6, p7, c7, p8, c8, rfl⟩; have v5 := fun o => (HX5.out.below b6).conv_alloc o; have v6 := fun o => (HC5.out.below b6).conv_alloc o; have HB6 := hid (HB5.out.trans (b6.mono HB5.out.size)); clear b6)
    | fail)
  go_ret
  exact ⟨rfl, HB6.out.alloc HB6.out.size _⟩
theorem npieces_walk {F : Nat → Prop} (v : Value) (l : List UInt8) (next : Int) (w : World) (h : BV w F v l) :
    Calls Try.prog 5 #[v, .int .i64 next] w fun e w' => e = .returned (.bool true) ∧ Below w.heap.size w w' := by
  cases hq : pieceOk l next
  · exact npieces_bad v l next w h hq
  · exact npieces_good v l next w h hq
end Go.Proofs.Ytilmlegkkgiahaa
