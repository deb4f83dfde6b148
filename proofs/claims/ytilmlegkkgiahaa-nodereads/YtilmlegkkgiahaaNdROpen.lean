/- What the document's Open does. Condition: the bytes lie within the reach. -/
import Derived.Test.YtilmlegkkgiahaaNdRPiece
import Derived.Test.YtilmlegkkgiahaaNdOpP
import Derived.BigQuiet
import Derived.Deep.CutRange
namespace Go.Proofs.Ytilmlegkkgiahaa
open Go.RowKit Go.Lib
set_option linter.unusedVariables false
set_option maxRecDepth 20000

theorem five {l : List UInt8} (h : 5 ≤ l.length) : ∃ b0 b1 b2 b3 b4 r, l = b0 :: b1 :: b2 :: b3 :: b4 :: r := by
  match l, h with
  | b0 :: b1 :: b2 :: b3 :: b4 :: r, _ => exact ⟨b0, b1, b2, b3, b4, r, rfl⟩
theorem le2_back2 {n : Nat} (h : n < 65536) : (UInt8.ofNat (n % 256)).toNat + 256 * (UInt8.ofNat (n / 256)).toNat = n := by
  simp
  omega
/-- What a load of a piece opens with. -/
theorem open_heads {b0 b1 b2 b3 b4 : UInt8} {r d : List UInt8} {x : Int} (h : opN (b0 :: b1 :: b2 :: b3 :: b4 :: r) = some (d, x)) : b0 = 3 ∧ ((b1.toNat + 256 * b2.toNat : Nat) : Int) = x ∧ b3.toNat + 256 * b4.toNat = d.length ∧ r.take (b3.toNat + 256 * b4.toNat) = d ∧ pieceOk d x = true ∧ piece d x = b0 :: b1 :: b2 :: b3 :: b4 :: r := by
  obtain ⟨hp, hl⟩ := opN_sound h
  obtain ⟨h1, h2, h3, h4⟩ := piece_parts hp
  have hl0 := hl
  unfold piece padTo le2 at hl
  simp only [List.cons_append, List.nil_append, List.cons.injEq] at hl
  obtain ⟨e0, e1, e2, e3, e4, e5⟩ := hl
  have n1 := le2_back2 (n := x.toNat) (by omega)
  have n2 := le2_back2 (n := d.length) (by omega)
  rw [e1, e2] at n1
  rw [e3, e4] at n2
  refine ⟨e0.symm, by omega, n2, ?_, hp, hl0⟩
  rw [n2, ← e5, List.take_append_of_le_length (Nat.le_refl _), List.take_length]
theorem op_none (l : List UInt8) (w : World) (h : opN l = none) {w' : World} (B : Below w.heap.size w w') : opEnd l w (.returned (.tuple #[.slice none 0 0, .int .i64 0, .int .i64 10])) w' :=
  ⟨B, [], 0, 10, none, 0, rfl, BV.nil _ _, Or.inr ⟨h, rfl, rfl, rfl⟩⟩
set_option maxHeartbeats 2000000 in
theorem ropen_len {F : Nat → Prop} (v : Value) (l : List UInt8) (w : World) (h : BV w F v l) (hl : l.length ≠ 508) : Calls Try.prog 22 #[v] w (opEnd l w) := by
  obtain ⟨p, c, rfl⟩ := h.shape
  obtain ⟨hll, _⟩ := h.len
  have HO : Hid (opN l = none) := if_neg hl
  have hlb : ((l.length : Int) == 508) = false := beq_eq_false_iff_ne.2 (by omega)
  go_enter Try.func22, Try.ntmps22
  go_wp2
  go_ret3
  exact op_none l w HO.out (Below.refl _ _)
theorem bel_dn' (w : World) (n : Nat) : Below w.heap.size w (w.drewN n) := ⟨rfl, rfl, rfl, Nat.le_refl _, fun _ _ => rfl⟩
theorem open_cells {w : World} {F : Nat → Prop} {p : Option Addr} {c : Nat} {b0 b1 b2 b3 b4 : UInt8} {r l : List UInt8} (h : BV w F (.slice p 508 c) l) (hl : l = b0 :: b1 :: b2 :: b3 :: b4 :: r) : ∃ b off, p = some ⟨b, off, none⟩ ∧ w.cell? ⟨b, off, none⟩ = some (.int .u8 (b0.toNat : Int)) ∧ w.cell? ⟨b, off + 1, none⟩ = some (.int .u8 (b1.toNat : Int)) ∧ w.cell? ⟨b, off + 2, none⟩ = some (.int .u8 (b2.toNat : Int)) ∧ w.cell? ⟨b, off + 3, none⟩ = some (.int .u8 (b3.toNat : Int)) ∧ w.cell? ⟨b, off + 4, none⟩ = some (.int .u8 (b4.toNat : Int)) := by
  subst hl
  obtain ⟨b, off, hp, _, g0⟩ := h.at (i := 0) (by simp)
  subst hp
  obtain ⟨b', off', hp, _, g1⟩ := h.at (i := 1) (by simp)
  simp only [Option.some.injEq, Addr.mk.injEq, and_true] at hp
  obtain ⟨rfl, rfl⟩ := hp
  obtain ⟨b', off', hp, _, g2⟩ := h.at (i := 2) (by simp)
  simp only [Option.some.injEq, Addr.mk.injEq, and_true] at hp
  obtain ⟨rfl, rfl⟩ := hp
  obtain ⟨b', off', hp, _, g3⟩ := h.at (i := 3) (by simp)
  simp only [Option.some.injEq, Addr.mk.injEq, and_true] at hp
  obtain ⟨rfl, rfl⟩ := hp
  obtain ⟨b', off', hp, _, g4⟩ := h.at (i := 4) (by simp)
  simp only [Option.some.injEq, Addr.mk.injEq, and_true] at hp
  obtain ⟨rfl, rfl⟩ := hp
  exact ⟨_, _, rfl, g0, g1, g2, g3, g4⟩
set_option maxHeartbeats 4000000 in
theorem ropen_main {F : Nat → Prop} (p : Option Addr) (c : Nat) (l r : List UInt8) (b0 b1 b2 b3 b4 : UInt8) (w : World) (h : BV w F (.slice p 508 c) l) (hl : l.length = 508) (hb : l = b0 :: b1 :: b2 :: b3 :: b4 :: r) : Calls Try.prog 22 #[.slice p 508 c] w (opEnd l w) := by
  obtain ⟨b, off, hp, g0, g1, g2, g3, g4⟩ := open_cells h hb
  subst hp
  have hcap := h.len.2.1
  rw [hl] at hcap
  have HV := hid h
  have k1 := UInt8.toNat_lt b1
  have k2 := UInt8.toNat_lt b2
  have k3 := UInt8.toNat_lt b3
  have k4 := UInt8.toNat_lt b4
  have hrl : r.length = 503 := by rw [hb] at hl; simp only [List.length_cons] at hl; omega
  have HHd : Hid (∀ d x, opN l = some (d, x) → b0 = 3 ∧ ((b1.toNat + 256 * b2.toNat : Nat) : Int) = x ∧ b3.toNat + 256 * b4.toNat = d.length ∧ r.take (b3.toNat + 256 * b4.toNat) = d ∧ pieceOk d x = true ∧ piece d x = l) := fun d x e => by
    rw [hb] at e ⊢
    exact open_heads e
  have HNo : Hid (∀ P : Prop, (∀ d x, opN l = some (d, x) → P) → ¬ P → opN l = none) := fun P h1 h2 => by
    cases e : opN l with
    | none => rfl
    | some y => exact absurd (h1 y.1 y.2 e) h2
  have H03 : Hid ((b0.toNat : Int) = 3 ↔ b0 = 3) := ⟨fun e => UInt8.toNat_inj.1 (by show b0.toNat = 3; omega), fun e => by rw [e]; rfl⟩
  obtain ⟨X, hX⟩ : ∃ X, X = b1.toNat + 256 * b2.toNat := ⟨_, rfl⟩
  obtain ⟨N, hN⟩ : ∃ N, N = b3.toNat + 256 * b4.toNat := ⟨_, rfl⟩
  rw [← hX, ← hN] at HHd
  have hdr : l.drop 5 = r := by rw [hb]; rfl
  have HPi : Hid (N ≤ 503 → ∀ w', Below w.heap.size w w' → BV w' F (.slice (some ⟨b, off + 5, none⟩) N (c - 5)) (r.take N)) := fun h3 w' B => by
    have h1 := BV.cutR (n := 5) (by rw [hl]; exact h : BV w F (.slice (some ⟨b, off, none⟩) l.length c) l) (by omega) (by omega)
    rw [hdr, hl, Option.map_some, add_cell] at h1
    have h2 := BV.cutL (n := N) (by rw [hrl]; exact h1 : BV w F (.slice (some ⟨b, off + 5, none⟩) r.length (c - 5)) r) (by omega)
    exact h2.below B
  have hxI : (b1.toNat : Int) + 256 * (b2.toNat : Int) = (X : Int) := by omega
  have hnI : (b3.toNat : Int) + 256 * (b4.toNat : Int) = (N : Int) := by omega
  have HL0 := hid hl
  have HR0 := hid hrl
  clear hb hdr h hl hrl
  generalize b1.toNat = B1 at *
  generalize b2.toNat = B2 at *
  generalize b3.toNat = B3 at *
  generalize b4.toNat = B4 at *
  by_cases h0 : b0 = 3
  · have h0i := H03.out.2 h0
    rw [h0i] at g0
    have HX := hid hxI
    have HN := hid hnI
    clear hX hN H03 h0 h0i hxI hnI
    go_enter Try.func22, Try.ntmps22
    go_upto_region 3 with fail
    go_quiet (fail)
    rw [HX.out, HN.out]
    have hXl : X < 65536 := by have := HX.out; omega
    have hNl : N < 65536 := by have := HN.out; omega
    have HBd := hid (bel_dn' w nq)
    clear g0 g1 g2 g3 g4 HX HN k1 k2 k3 k4
    by_cases h5 : N ≤ 503
    · have hc5 : ¬ c = 5 := by omega
      have hcN : 5 + N ≤ c := by omega
      have hg : ¬ ((N : Int) > 503) := by omega
      have htk : (r.take N).length = N := by rw [List.length_take, HR0.out]; omega
      have HLt := hid htk
      have HP := hid (rpiece_any (some ⟨b, off + 5, none⟩) (r.take N) (c - 5) (X : Int) (w.drewN nq) (by rw [htk]; exact HPi.out h5 _ HBd.out))
      rw [htk] at HP
      unfold peEnd at HP
      cases hq : pieceOk (r.take N) (X : Int) with
      | false =>
        have HO := hid (HNo.out (pieceOk (r.take N) (X : Int) = true) (fun d x e => by obtain ⟨_, e1, _, e2, e3, _⟩ := HHd.out d x e; rw [e2, e1]; exact e3) (by rw [hq]; decide))
        rw [hq] at HP
        have HP2 := hid (HP.out.mono (R' := fun e w' => e = .returned (.tuple #[.slice none 0 0, .int .i64 3]) ∧ Below (w.drewN nq).heap.size (w.drewN nq) w') (fun e w' ⟨B, q⟩ => by rcases q with ⟨q, _⟩ | ⟨_, q⟩; exact absurd q (by decide); exact ⟨q, B⟩))
        clear hq HP htk
        go_wp2_with (first
          | (go_at_call 24; with_reducible refine HP2.out.mono ?_; rintro e w5 ⟨rfl, b5⟩; have HB5 := hid (HBd.out.trans (b5.mono HBd.out.size)); clear b5)
          | fail)
        go_ret3
        exact op_none l w HO.out HB5.out
      | true =>
        rw [hq] at HP
        have HP2 := hid (HP.out.mono (R' := fun e w' => ∃ v, e = .returned (.tuple #[v, .int .i64 0]) ∧ OwnB w' (w.drewN nq).heap.size v (piece (r.take N) (X : Int)) ∧ Below (w.drewN nq).heap.size (w.drewN nq) w') (fun e w' ⟨B, q⟩ => by rcases q with ⟨_, v, q, O⟩ | ⟨q, _⟩; exact ⟨v, q, O, B⟩; exact absurd q (by decide)))
        have HPL := hid (piece_len hq)
        by_cases he : piece (r.take N) (X : Int) = l
        · have HO : Hid (opN l = some (r.take N, (X : Int))) := by show _ = _; rw [← he]; exact opN_piece hq
          have HPj : Hid (∀ w', Below w.heap.size w w' → BV w' F (.slice (some ⟨b, off + 5, none⟩) (5 + N - 5) (c - 5)) (r.take N)) := fun w' B => by rw [Nat.add_sub_cancel_left]; exact HPi.out h5 w' B
          rw [he] at HP2 HPL
          clear hq HP htk he
          go_wp2_with (first
            | (go_at_call 24; with_reducible refine HP2.out.mono ?_; rintro e w5 ⟨v5, rfl, o5, b5⟩; obtain ⟨p5, c5, hv5⟩ := o5.formN 508 HPL.out; subst hv5; have HB5 := hid (HBd.out.trans (b5.mono HBd.out.size)); have v1 := (o5.bv (Nat.le_trans (Nat.le_of_eq HPL.out) (by decide))).conv; have v2 := (HV.out.below HB5.out).conv; have HD5 := hid (HPj.out w5 HB5.out); clear b5 o5)
            | (at_builtin; obtain ⟨v6, w6, hr, O6, B6⟩ := run_copyB w5 31 HD5.out; refine wl_run rfl rfl rfl rfl hr ?_; obtain ⟨p6, c6, hv6⟩ := O6.formN N HLt.out; subst hv6; have HO6 := hid O6; have HB6 := hid (HB5.out.trans (B6.mono HB5.out.size)); clear hr O6 B6)
            | fail)
          go_ret3
          exact ⟨HB6.out, r.take N, (X : Int), 0, p6, c6, by rw [HLt.out]; rfl, by rw [HLt.out]; exact (HO6.out.bv (by rw [HLt.out]; omega)).mono (fun j _ hj => Nat.le_trans HB5.out.size hj), Or.inl ⟨HO.out, rfl⟩⟩
        · have HO := hid (HNo.out (piece (r.take N) (X : Int) = l) (fun d x e => by obtain ⟨_, e1, _, e2, _, e3⟩ := HHd.out d x e; rw [e2, e1]; exact e3) he)
          have hne : (piece (r.take N) (X : Int) == l) = false := beq_eq_false_iff_ne.2 he
          generalize piece (r.take N) (X : Int) = pc at *
          clear hq HP htk he
          go_wp2_with (first
            | (go_at_call 24; with_reducible refine HP2.out.mono ?_; rintro e w5 ⟨v5, rfl, o5, b5⟩; obtain ⟨p5, c5, hv5⟩ := o5.formN 508 HPL.out; subst hv5; have HB5 := hid (HBd.out.trans (b5.mono HBd.out.size)); have v1 := (o5.bv (Nat.le_trans (Nat.le_of_eq HPL.out) (by decide))).conv; have v2 := (HV.out.below HB5.out).conv; clear b5 o5)
            | fail)
          go_ret3
          exact op_none l w HO.out HB5.out
    · have HO := hid (HNo.out (N ≤ 503) (fun d x e => by obtain ⟨_, _, e1, _, e2, _⟩ := HHd.out d x e; have := piece_parts e2; omega) h5)
      have hg : (N : Int) > 503 := by omega
      go_wp2
      go_ret3
      exact op_none l w HO.out HBd.out
  · have HO := hid (HNo.out (b0 = 3) (fun d x e => (HHd.out d x e).1) h0)
    have h0b : ((b0.toNat : Int) == 3) = false := beq_eq_false_iff_ne.2 (fun e => h0 (H03.out.1 e))
    clear hX hN H03 h0 hxI hnI g1 g2 g3 g4
    generalize b0.toNat = B0 at *
    go_enter Try.func22, Try.ntmps22
    go_wp2
    go_ret3
    exact op_none l w HO.out (Below.refl _ _)
theorem ropen_any {F : Nat → Prop} (v : Value) (l : List UInt8) (w : World) (h : BV w F v l) : Calls Try.prog 22 #[v] w (opEnd l w) := by
  by_cases hl : l.length = 508
  · obtain ⟨b0, b1, b2, b3, b4, r, hb⟩ := five (l := l) (by omega)
    obtain ⟨p, c, rfl⟩ := h.shape
    rw [hl] at h ⊢
    exact ropen_main p c l r b0 b1 b2 b3 b4 w h hl hb
  · exact ropen_len v l w h hl
end Go.Proofs.Ytilmlegkkgiahaa
