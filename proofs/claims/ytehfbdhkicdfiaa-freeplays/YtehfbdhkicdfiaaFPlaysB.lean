/- What FreePlays does where more pages are asked than there may be. Condition: the numbers of each act lie within the reach. -/
import Derived.Test.YtehfbdhkicdfiaaFPlaysBase
namespace Go.Proofs.Ytehfbdhkicdfiaa
open Go.RowKit
set_option linter.unusedVariables false
set_option maxRecDepth 20000

set_option maxHeartbeats 4000000 in
theorem fplays_b (pages : Int) (l : List Opz) (p : Option Addr) (c : Nat) (w : World) (hd1 : 3000 < pages) (hd2 : 4096 < pages) (hl : l.length ≤ maxLen) (hL : Ops7 w p l) (hK : ∀ x ∈ l, x.l.length * 8 ≤ 140737488351232) :
    Calls Try.prog 3 #[.int .i64 pages, .slice p l.length c] w fun e w' => e = .returned (.bool true) ∧ Below w.heap.size w w' := by
  have HN1 := hid (new_any pages w)
  have HN2 : Hid (∀ w1 : World, Calls Try.prog 7 #[.int .i64 pages] w1 (newEnd w1 (sizeN pages))) := fun w1 => rnew_any pages w1
  generalize sizeN pages = N at *
  have HL := hid hL
  have HK := hid hK
  have hli : (l.length : Int) ≤ 9223372036854775807 := by unfold maxLen at hl; omega
  clear hL hK
  go_enter Try.func3, Try.ntmps3
  go_wp2_with (first
    | (go_at_call 6; go_loud ((with_reducible refine HN1.out.mono ?_); rintro e w1 ⟨rfl, F1, B1, S1⟩; have HF1 := hid F1; have HB1 := hid B1; have HS1 := hid S1; have HN3 := hid (HN2.out w1); clear F1 B1 S1))
    | (go_at_call 7; go_loud ((with_reducible refine HN3.out.mono ?_); rintro e w2 ⟨rfl, F2, B2, S2⟩; have HF2 := hid F2; have HB2 := hid B2; have HS2 := hid S2; clear F2 B2 S2))
    | fail)
  have HT : Hid (TS w.heap.size w w2 (w.heap.size + 1) w.heap.size (w1.heap.size + 1) w1.heap.size (List.replicate N false) (List.replicate N false)) := by
    have s1 := HS1.out
    have s2 := HS2.out
    exact ⟨HF1.out.below HB2.out, HF2.out, HB1.out.trans (HB2.out.mono (by omega)), by omega, by omega, by omega, by omega, by omega, by omega, by omega, by omega⟩
  clear HN1 HN2 HN3 HF1 HF2 HB1 HB2 HS1 HS2
  generalize w1.heap.size + 1 = rb at *
  generalize w1.heap.size = rg at *
  generalize w.heap.size + 1 = sb0 at *
  go_loopw [5, 7] (fun sv i wr => ∃ (k sb g : Nat) (u : List Bool), sv = .pointer (some ⟨sb, 0, none⟩) ∧ i = .int .i64 (k : Int) ∧ k ≤ 100 ∧ TS w.heap.size w wr sb g rb rg u u) (fun _ i _ => 100 - (RowKit.intOf i).toNat)
  case atStart => exact ⟨0, sb0, w.heap.size, _, rfl, rfl, by omega, HT.out⟩
  case round =>
    clear HT
    obtain ⟨k, sb, g, u, rfl, rfl, hk, hT⟩ := hrel
    have HT := hid hT
    by_cases hx : k < l.length ∧ k < 100
    · obtain ⟨hx1, hx2⟩ := hx
      have hx1' : (k : Int) < (l.length : Int) := by omega
      have hx2' : (k : Int) < 100 := by omega
      obtain ⟨bk, off, rfl, hat⟩ := HL.out.at hx1
      obtain ⟨lp, lc, c0, c1, c2, hI, hn, hlc, hnil⟩ := hat
      have hK2 := HK.out _ (List.getElem_mem hx1)
      have hB := hT.bel
      have cc : ∀ {j v}, w.cell? ⟨bk, j, none⟩ = some v → wr.cell? ⟨bk, j, none⟩ = some v := fun {j v} hc => (World.cell?_of_block (w := w) (a := ⟨bk, j, none⟩) (hB.block bk (cell_lt hc))).trans hc
      have e0 := cc c0
      have e1 := cc c1
      have e2 := cc c2
      have HI := hid hI
      have HNil := hid hnil
      have HK2 := hid hK2
      generalize l[k] = x at *
      generalize x.kind = xk at *
      generalize x.n = xn at *
      generalize x.l = xl at *
      have HZ := hid hT.hB
      clear hT hI hnil hK2 hB cc c0 c1 c2 hlc
      have HTb : Hid (TS w.heap.size w (wr.alloc (.cells #[.int .i64 xk, .int .i64 xn, .slice lp xl.length lc] 29)) sb g rb rg u u) := HT.out.grow ((Below.refl _ _).alloc (Nat.le_refl _) _)
      have eb := heap_alloc_new wr (.cells #[.int .i64 xk, .int .i64 xn, .slice lp xl.length lc] 29)
      have f1 : (wr.alloc (.cells #[.int .i64 xk, .int .i64 xn, .slice lp xl.length lc] 29)).cell? ⟨wr.heap.size, 1, none⟩ = some (.int .i64 xn) := by rw [cell_of_row _ _ 1 _ _ _ eb]; rfl
      have f2 : (wr.alloc (.cells #[.int .i64 xk, .int .i64 xn, .slice lp xl.length lc] 29)).cell? ⟨wr.heap.size, 2, none⟩ = some (.slice lp xl.length lc) := by rw [cell_of_row _ _ 2 _ _ _ eb]; rfl
      have HO1 := hid f1
      have HO2 := hid f2
      have HW1 : Hid (sb < wr.heap.size ∧ g < wr.heap.size ∧ rb < wr.heap.size ∧ rg < wr.heap.size) := ⟨HT.out.l.slt, HT.out.l.lt, HT.out.r.slt, HT.out.r.lt⟩
      have HSb : Hid ((wr.alloc (.cells #[.int .i64 xk, .int .i64 xn, .slice lp xl.length lc] 29)).heap.size = wr.heap.size + 1) := by show _ = _; simp
      clear eb f1 f2
      by_cases k0 : xk = 0
      · subst k0
        have C1 := hid HTb.out.takeL
        have HN1 : Hid (wr.heap.size ≠ g ∧ wr.heap.size ≠ rg) := by have := HW1.out; exact ⟨by omega, by omega⟩
        have C2 : Hid (∀ w3 : World, TS w.heap.size w w3 sb g rb rg (takeU u) u → Calls Try.prog 9 #[.pointer (some ⟨rb, 0, none⟩)] w3 fun e w' => e = .returned (.tuple #[.int .i64 (takeN u), .bool (takeB u)]) ∧ TS w.heap.size w w' sb g rb rg (takeU u) (takeU u) ∧ Tw g rg w3 w') := fun w3 t => t.takeD
        generalize takeN u = tn at *
        generalize takeB u = tb at *
        generalize takeU u = v at *
        go_wp2_with (first
          | (go_at_call 8; go_loud ((with_reducible refine C1.out.mono ?_); rintro e w3 ⟨rfl, t3, x3⟩; have C3 := hid (C2.out w3 t3); have HO3 := hid (x3.cell HO1.out HN1.out.1 HN1.out.2); clear t3 x3 C1))
          | (go_at_call 9; go_loud ((with_reducible refine C3.out.mono ?_); rintro e w4 ⟨rfl, t4, x4⟩; have HT4 := hid t4; have HO4 := hid (x4.cell HO3.out HN1.out.1 HN1.out.2); clear t4 x4 C3))
          | fail)
        clear HTb HO1 HO2 HSb HT HO3
        generalize wr.heap.size = ob at *
        have HTd := hid HT4.out.drew
        have HSd : Hid ((w4).drew.cell? ⟨ob, 1, none⟩ = some (.int .i64 xn)) := HO4.out
        have D1 := hid HTd.out.leftL
        have D2 := hid HTd.out.leftD
        have D3 := hid (HTd.out.freeL xn)
        have D4 := hid (HTd.out.freeD xn)
        generalize left v = A at *
        generalize fr v xn = fx at *
        go_region_held_law (fun w' => w'.cell? ⟨ob, 1, none⟩ = some (.int .i64 xn)) (exact HSd.out)
          (first
            | (go_at_call 15; (with_reducible refine D1.out.mono ?_); rintro e wq ⟨rfl, hw⟩; subst wq)
            | (go_at_call 16; (with_reducible refine D2.out.mono ?_); rintro e wq ⟨rfl, hw⟩; subst wq)
            | (go_at_call 17; (with_reducible refine D3.out.mono ?_); rintro e wq ⟨rfl, hw⟩; subst wq)
            | (go_at_call 18; (with_reducible refine D4.out.mono ?_); rintro e wq ⟨rfl, hw⟩; subst wq)
            | fail)
        go_wp2
        go_roundw
        case rel => exact ⟨k + 1, sb, g, v, rfl, by go_num, by omega, HTd.out⟩
        case measure => simp [RowKit.intOf]; omega
      by_cases k1 : xk = 1
      · subst k1
        have HTd0 := hid HTb.out.drew
        have HSd0 : Hid ((wr.alloc (.cells #[.int .i64 1, .int .i64 xn, .slice lp xl.length lc] 29)).drew.cell? ⟨wr.heap.size, 1, none⟩ = some (.int .i64 xn)) := HO1.out
        have C1 := hid (HTd0.out.giveL xn)
        have HN1 : Hid (wr.heap.size ≠ g ∧ wr.heap.size ≠ rg) := by have := HW1.out; exact ⟨by omega, by omega⟩
        have C2 : Hid (∀ w3 : World, TS w.heap.size w w3 sb g rb rg (giveU u xn) u → Calls Try.prog 11 #[.pointer (some ⟨rb, 0, none⟩), .int .i64 xn] w3 fun e w' => e = .returned (.bool (giveB u xn)) ∧ TS w.heap.size w w' sb g rb rg (giveU u xn) (giveU u xn) ∧ Tw g rg w3 w') := fun w3 t => t.giveD xn
        generalize giveB u xn = tb at *
        generalize giveU u xn = v at *
        have hne : ((tb != tb) = false) := by simp
        go_wp2
        go_region_held_law (fun w' => w'.cell? ⟨wr.heap.size, 1, none⟩ = some (.int .i64 xn)) (first | exact HSd0.out | exact HO3.out | exact HO4.out)
          (first
            | (go_at_call 10; go_loud ((with_reducible refine C1.out.mono ?_); rintro e w3 ⟨rfl, t3, x3⟩; have C3 := hid (C2.out w3 t3); have HO3 := hid (x3.cell HSd0.out HN1.out.1 HN1.out.2); clear t3 x3 C1))
            | (go_at_call 11; go_loud ((with_reducible refine C3.out.mono ?_); rintro e w4 ⟨rfl, t4, x4⟩; have HT4 := hid t4; have HO4 := hid (x4.cell HO3.out HN1.out.1 HN1.out.2); clear t4 x4 C3))
            | fail)
        go_wp2
        clear HTb HO1 HO2 HSb HT HO3 HTd0 HSd0
        generalize wr.heap.size = ob at *
        have HTd := hid HT4.out.drew
        have HSd : Hid ((w4).drew.cell? ⟨ob, 1, none⟩ = some (.int .i64 xn)) := HO4.out
        have D1 := hid HTd.out.leftL
        have D2 := hid HTd.out.leftD
        have D3 := hid (HTd.out.freeL xn)
        have D4 := hid (HTd.out.freeD xn)
        generalize left v = A at *
        generalize fr v xn = fx at *
        go_region_held_law (fun w' => w'.cell? ⟨ob, 1, none⟩ = some (.int .i64 xn)) (exact HSd.out)
          (first
            | (go_at_call 15; (with_reducible refine D1.out.mono ?_); rintro e wq ⟨rfl, hw⟩; subst wq)
            | (go_at_call 16; (with_reducible refine D2.out.mono ?_); rintro e wq ⟨rfl, hw⟩; subst wq)
            | (go_at_call 17; (with_reducible refine D3.out.mono ?_); rintro e wq ⟨rfl, hw⟩; subst wq)
            | (go_at_call 18; (with_reducible refine D4.out.mono ?_); rintro e wq ⟨rfl, hw⟩; subst wq)
            | fail)
        go_wp2
        go_roundw
        case rel => exact ⟨k + 1, sb, g, v, rfl, by go_num, by omega, HTd.out⟩
        case measure => simp [RowKit.intOf]; omega
      by_cases k2 : xk = 2
      · subst k2
        have HIb : Hid (Ints (wr.alloc (.cells #[.int .i64 2, .int .i64 xn, .slice lp xl.length lc] 29)) lp xl) := HI.out.below HTb.out.bel
        have HLp : Hid (xl ≠ [] → ∀ b off, lp = some ⟨b, off, none⟩ → b ≠ g ∧ b ≠ rg) := by
          intro hne b off e
          rcases HI.out with q | ⟨b2, off2, hp, hc⟩
          · exact absurd q hne
          · rw [hp] at e
            simp only [Option.some.injEq, Addr.mk.injEq] at e
            have h5 := cell_lt (hc 0 (List.length_pos_iff.2 hne))
            simp only at h5
            have := HT.out.hg
            have := HT.out.hc
            exact ⟨by omega, by omega⟩
        have HN1 : Hid (wr.heap.size ≠ g ∧ wr.heap.size ≠ rg) := by have := HW1.out; exact ⟨by omega, by omega⟩
        have HXm : Hid (xl.length ≤ maxLen) := by show _ ≤ _; have := HK2.out; unfold maxLen; omega
        have hXi : (xl.length : Int) ≤ 9223372036854775807 := by have := HK2.out; omega
        have C1 : Hid (∀ (w5 : World) (p5 : Option Addr) (c5 : Nat), TS w.heap.size w w5 sb g rb rg u u → Ints w5 p5 xl → (∀ b off, p5 = some ⟨b, off, none⟩ → (wr.alloc (.cells #[.int .i64 2, .int .i64 xn, .slice lp xl.length lc] 29)).heap.size ≤ b) → Calls Try.prog 12 #[.pointer (some ⟨sb, 0, none⟩), .slice p5 xl.length c5] w5 fun e w' => e = .returned (.int .i64 (onlyE u xl)) ∧ TS w.heap.size w w' sb g rb rg (onlyU u xl) u ∧ Tw g rg w5 w') := fun w5 p5 c5 t i b => t.onlyL p5 xl c5 i HXm.out (fun _ b' off e => by have := b b' off e; have := HSb.out; have := HW1.out; omega)
        have C2 : Hid (∀ w5 : World, TS w.heap.size w w5 sb g rb rg (onlyU u xl) u → Ints w5 lp xl → Calls Try.prog 13 #[.pointer (some ⟨rb, 0, none⟩), .slice lp xl.length lc] w5 fun e w' => e = .returned (.int .i64 (onlyE u xl)) ∧ TS w.heap.size w w' sb g rb rg (onlyU u xl) (onlyU u xl) ∧ Tw g rg w5 w') := fun w5 t i => t.onlyD lp xl lc i HXm.out (fun hne b off e => (HLp.out hne b off e).2)
        have hne : (onlyE u xl != onlyE u xl) = false := by simp
        generalize onlyE u xl = er at *
        generalize onlyU u xl = v at *
        have HNew : Hid (∀ (v' : Value) (w' : World), OwnI w' (wr.alloc (.cells #[.int .i64 2, .int .i64 xn, .slice lp xl.length lc] 29)).heap.size v' xl → Below (wr.alloc (.cells #[.int .i64 2, .int .i64 xn, .slice lp xl.length lc] 29)).heap.size (wr.alloc (.cells #[.int .i64 2, .int .i64 xn, .slice lp xl.length lc] 29)) w' → ∃ p5 c5, v' = .slice p5 xl.length c5 ∧ TS w.heap.size w w' sb g rb rg u u ∧ Ints w' p5 xl ∧ (∀ b off, p5 = some ⟨b, off, none⟩ → (wr.alloc (.cells #[.int .i64 2, .int .i64 xn, .slice lp xl.length lc] 29)).heap.size ≤ b) ∧ (0 < xl.length → ∃ b, p5 = some ⟨b, 0, none⟩ ∧ RowI w' b xl) ∧ Ints w' lp xl ∧ w'.cell? ⟨wr.heap.size, 1, none⟩ = some (.int .i64 xn) ∧ w'.cell? ⟨wr.heap.size, 2, none⟩ = some (.slice lp xl.length lc)) := by
          intro v' w' o b
          obtain ⟨p5, c5, e, i5, b5, r5⟩ := o.parts
          have hk : ∀ {j x}, (wr.alloc (.cells #[.int .i64 2, .int .i64 xn, .slice lp xl.length lc] 29)).cell? ⟨wr.heap.size, j, none⟩ = some x → w'.cell? ⟨wr.heap.size, j, none⟩ = some x := fun {j x} hc => (World.cell?_of_block (w := wr.alloc (.cells #[.int .i64 2, .int .i64 xn, .slice lp xl.length lc] 29)) (a := ⟨wr.heap.size, j, none⟩) (b.block wr.heap.size (by have := HSb.out; omega))).trans hc
          exact ⟨p5, c5, e, HTb.out.grow b, i5, b5, r5, HIb.out.below b, hk HO1.out, hk HO2.out⟩
        go_wp2_with (first
          | (at_builtin; go_loud (refine copyI (wr.alloc (.cells #[.int .i64 2, .int .i64 xn, .slice lp xl.length lc] 29)) _ _ _ lp xl lc rfl rfl ?hg rfl rfl HNil.out HIb.out HK2.out ?_; (case hg => simp); intro v5 w5 o5 b5; obtain ⟨p5, c5, rfl, t5, i5, q5, r5, j5, m5, n5⟩ := HNew.out v5 w5 o5 b5; have HT5 := hid t5; have HI5 := hid i5; have HQ5 := hid q5; have HR5 := hid r5; have HJ5 := hid j5; have HM5 := hid m5; have HN5 := hid n5; clear o5 b5 t5 i5 q5 r5 j5 m5 n5; try go_frame))
          | fail)
        have HTd0 := hid HT5.out.drew
        have HSd0 : Hid (w5.drew.cell? ⟨wr.heap.size, 2, none⟩ = some (.slice lp xl.length lc)) := HN5.out
        have C3 := hid (C1.out w5.drew p5 c5 HTd0.out (HI5.out.below (Below.refl _ _).drew) HQ5.out)
        have HAf : Hid (∀ w6 : World, Tw g rg w5.drew w6 → Ints w6 lp xl ∧ w6.cell? ⟨wr.heap.size, 1, none⟩ = some (.int .i64 xn) ∧ w6.cell? ⟨wr.heap.size, 2, none⟩ = some (.slice lp xl.length lc)) := fun w6 x => ⟨(HJ5.out.below (Below.refl _ _).drew).chg x (fun hne b off e q => q.elim (HLp.out hne b off e).1 (HLp.out hne b off e).2), x.cell HM5.out HN1.out.1 HN1.out.2, x.cell HN5.out HN1.out.1 HN1.out.2⟩
        have HRw : Hid (∀ w6 w7 : World, Tw g rg w5.drew w6 → Tw g rg w6 w7 → (0 < xl.length → ∃ b, p5 = some ⟨b, 0, none⟩ ∧ wr.heap.size + 1 ≤ b ∧ RowI w7 b xl)) := by
          intro w6 w7 x y h0
          obtain ⟨b, hp, hr⟩ := HR5.out h0
          have q := HQ5.out b 0 hp
          rw [HSb.out] at q
          have h1 : b < w5.heap.size := by
            obtain ⟨cur, t, hb, _⟩ := hr
            exact (Array.getElem?_eq_some_iff.1 hb).1
          have h2 := HW1.out
          have hn : ¬ (b = g ∨ b = rg) := by omega
          exact ⟨b, hp, q, hr.same ((y.block b (Nat.lt_of_lt_of_le h1 x.size) hn).trans (x.block b h1 hn))⟩
        go_region_held_law (fun w' => w'.cell? ⟨wr.heap.size, 2, none⟩ = some (.slice lp xl.length lc)) (first | exact HSd0.out | exact HO6.out | exact HO7.out)
          (first
            | (go_at_call 12; go_loud ((with_reducible refine C3.out.mono ?_); rintro e w6 ⟨rfl, t6, x6⟩; have ha6 := HAf.out w6 x6; have HO6 := hid ha6.2.2; have HP6 := hid ha6.2.1; have C4 := hid (C2.out w6 t6 ha6.1); have HX6 := hid x6; clear t6 x6 ha6 C3))
            | (go_at_call 13; go_loud ((with_reducible refine C4.out.mono ?_); rintro e w7 ⟨rfl, t7, x7⟩; have HT7 := hid t7; have HO7 := hid (x7.cell HO6.out HN1.out.1 HN1.out.2); have HP7 := hid (x7.cell HP6.out HN1.out.1 HN1.out.2); have HR7 := hid (HRw.out w6 w7 HX6.out x7); clear t7 x7 C4))
            | fail)
        have HW2 : Hid (sb < wr.heap.size ∧ g < wr.heap.size ∧ rb < wr.heap.size ∧ rg < wr.heap.size ∧ w.heap.size ≤ wr.heap.size) := ⟨HW1.out.1, HW1.out.2.1, HW1.out.2.2.1, HW1.out.2.2.2, HT.out.hB⟩
        clear HTb HO1 HO2 HSb HT HO6 HTd0 HSd0 HAf HRw HX6 HP6 HNew HIb HLp C1 C2 HI HNil HT5 HI5 HQ5 HR5 HJ5 HM5 HN5 HW1 HZ HO7 hne HN1 e0 e1 e2
        go_wp2
        generalize wr.heap.size = ob at *
        go_loopw [14] (fun i wq => ∃ (m : Nat) (l' : List Int), i = .int .i64 (m : Int) ∧ m ≤ xl.length ∧ l'.length = xl.length ∧ TS w.heap.size w wq sb g rb rg v v ∧ wq.cell? ⟨ob, 1, none⟩ = some (.int .i64 xn) ∧ (0 < xl.length → ∃ b, p5 = some ⟨b, 0, none⟩ ∧ ob + 1 ≤ b ∧ RowI wq b l')) (fun i _ => xl.length - (RowKit.intOf i).toNat)
        case atStart => exact ⟨0, xl, rfl, Nat.zero_le _, rfl, HT7.out, HP7.out, HR7.out⟩
        case round =>
          clear HT7 HP7 HR7
          obtain ⟨m, l', rfl, hm, hl', hT9, hO9, hR9⟩ := hrel
          by_cases hy : m < xl.length
          · obtain ⟨b, rfl, hb, hr⟩ := hR9 (by omega)
            obtain ⟨r1, r2⟩ := hr.at (i := m) (by omega)
            have hw2 := HW2.out
            have HTn := hid (hT9.turn (set_chg wr b m (.int .i64 3)) (by omega) (by omega) (by omega) (by omega) (by omega))
            have HOn : Hid ((wr.setCell ⟨b, m, none⟩ (.int .i64 3)).cell? ⟨ob, 1, none⟩ = some (.int .i64 xn)) := (set_chg wr b m (.int .i64 3)).cell hO9 (show ob ≠ b by omega)
            have HRn := hid (hr.set m 3)
            have HLn : Hid ((l'.set m 3).length = xl.length) := by show _ = _; rw [List.length_set]; exact hl'
            have HB := hid hb
            generalize l'[m]'(by omega) = old at *
            clear hT9 hO9 hR9 hr hw2 hb hl'
            go_wp2
            go_roundw
            case rel => exact ⟨m + 1, l'.set m 3, by go_num, by omega, HLn.out, HTn.out, HOn.out, fun _ => ⟨b, rfl, HB.out, HRn.out⟩⟩
            case measure => simp [RowKit.intOf]; omega
          · obtain rfl : m = xl.length := by omega
            have HT9 := hid hT9
            have HO9 := hid hO9
            clear hT9 hO9 hR9 hl'
            generalize wr = w9 at *
            go_wp2
            have HTd := hid HT9.out.drew
            have HSd : Hid ((w9).drew.cell? ⟨ob, 1, none⟩ = some (.int .i64 xn)) := HO9.out
            have D1 := hid HTd.out.leftL
            have D2 := hid HTd.out.leftD
            have D3 := hid (HTd.out.freeL xn)
            have D4 := hid (HTd.out.freeD xn)
            generalize left v = A at *
            generalize fr v xn = fx at *
            go_region_held_law (fun w' => w'.cell? ⟨ob, 1, none⟩ = some (.int .i64 xn)) (exact HSd.out)
              (first
                | (go_at_call 15; (with_reducible refine D1.out.mono ?_); rintro e wq ⟨rfl, hw⟩; subst wq)
                | (go_at_call 16; (with_reducible refine D2.out.mono ?_); rintro e wq ⟨rfl, hw⟩; subst wq)
                | (go_at_call 17; (with_reducible refine D3.out.mono ?_); rintro e wq ⟨rfl, hw⟩; subst wq)
                | (go_at_call 18; (with_reducible refine D4.out.mono ?_); rintro e wq ⟨rfl, hw⟩; subst wq)
                | fail)
            go_wp2
            go_roundw
            case rel => exact ⟨k + 1, sb, g, v, rfl, by go_num, by omega, HTd.out⟩
            case measure => simp [RowKit.intOf]; omega
      by_cases k3 : xk = 3
      · subst k3
        have C1 := hid (clone_any sb g u _ HTb.out.l)
        have HN1 : Hid (wr.heap.size ≠ g ∧ wr.heap.size ≠ rg) := by have := HW1.out; exact ⟨by omega, by omega⟩
        have C2 : Hid (∀ w3 : World, FSt w3 sb g u → Calls Try.prog 8 #[.pointer (some ⟨sb, 0, none⟩)] w3 fun e w' => (∃ tn tb, e = .returned (.tuple #[.int .i64 tn, .bool tb])) ∧ Chg (· = g) w3 w') := fun w3 f => (take_any sb g u w3 f).mono (fun e w' q => ⟨⟨_, _, q.1⟩, q.2.2.1⟩)
        have HSw : Hid (∀ (w3 : World) (nb ng : Nat), Below (wr.alloc (.cells #[.int .i64 3, .int .i64 xn, .slice lp xl.length lc] 29)).heap.size (wr.alloc (.cells #[.int .i64 3, .int .i64 xn, .slice lp xl.length lc] 29)) w3 → FSt w3 nb ng u → (wr.alloc (.cells #[.int .i64 3, .int .i64 xn, .slice lp xl.length lc] 29)).heap.size ≤ nb → (wr.alloc (.cells #[.int .i64 3, .int .i64 xn, .slice lp xl.length lc] 29)).heap.size ≤ ng → TS w.heap.size w w3 nb ng rb rg u u ∧ FSt w3 sb g u ∧ w3.cell? ⟨wr.heap.size, 1, none⟩ = some (.int .i64 xn)) := fun w3 nb ng b f q1 q2 => ⟨(HTb.out.swap b f q1 q2).2, HTb.out.l.below b, (World.cell?_of_block (w := wr.alloc (.cells #[.int .i64 3, .int .i64 xn, .slice lp xl.length lc] 29)) (a := ⟨wr.heap.size, 1, none⟩) (b.block wr.heap.size (by have := HSb.out; omega))).trans HO1.out⟩
        have HTn : Hid (∀ (w3 w4 : World) (nb ng : Nat), TS w.heap.size w w3 nb ng rb rg u u → (wr.alloc (.cells #[.int .i64 3, .int .i64 xn, .slice lp xl.length lc] 29)).heap.size ≤ nb → (wr.alloc (.cells #[.int .i64 3, .int .i64 xn, .slice lp xl.length lc] 29)).heap.size ≤ ng → Chg (· = g) w3 w4 → TS w.heap.size w w4 nb ng rb rg u u) := fun w3 w4 nb ng t q1 q2 c => t.turn c HT.out.hg (by have := HW1.out; have := HSb.out; omega) (by have := HW1.out; have := HSb.out; omega) HT.out.d1 HT.out.d2
        go_wp2_with (first
          | (go_at_call 14; go_loud ((with_reducible refine C1.out.mono ?_); rintro e w3 ⟨nb, ng, rfl, f3, q1, q2, b3⟩; have HQ1 := hid q1; have HQ2 := hid q2; have hs3 := HSw.out w3 nb ng b3 f3 q1 q2; have HT3 := hid hs3.1; have HO3 := hid hs3.2.2; have C3 := hid (C2.out w3 hs3.2.1); clear f3 q1 q2 b3 hs3 C1))
          | (go_at_call 8; go_loud ((with_reducible refine C3.out.mono ?_); rintro e w4 ⟨⟨tn, tb, rfl⟩, x4⟩; have HT4 := hid (HTn.out w3 w4 nb ng HT3.out HQ1.out HQ2.out x4); have HO4 := hid (x4.cell HO3.out HN1.out.1); clear x4 C3))
          | fail)
        clear HTb HO1 HO2 HSb HT HO3 HTn HSw HT3 HQ1 HQ2 C2
        generalize wr.heap.size = ob at *
        have HTd := hid HT4.out.drew
        have HSd : Hid ((w4).drew.cell? ⟨ob, 1, none⟩ = some (.int .i64 xn)) := HO4.out
        have D1 := hid HTd.out.leftL
        have D2 := hid HTd.out.leftD
        have D3 := hid (HTd.out.freeL xn)
        have D4 := hid (HTd.out.freeD xn)
        generalize left u = A at *
        generalize fr u xn = fx at *
        go_region_held_law (fun w' => w'.cell? ⟨ob, 1, none⟩ = some (.int .i64 xn)) (exact HSd.out)
          (first
            | (go_at_call 15; (with_reducible refine D1.out.mono ?_); rintro e wq ⟨rfl, hw⟩; subst wq)
            | (go_at_call 16; (with_reducible refine D2.out.mono ?_); rintro e wq ⟨rfl, hw⟩; subst wq)
            | (go_at_call 17; (with_reducible refine D3.out.mono ?_); rintro e wq ⟨rfl, hw⟩; subst wq)
            | (go_at_call 18; (with_reducible refine D4.out.mono ?_); rintro e wq ⟨rfl, hw⟩; subst wq)
            | fail)
        go_wp2
        go_roundw
        case rel => exact ⟨k + 1, nb, ng, u, rfl, by go_num, by omega, HTd.out⟩
        case measure => simp [RowKit.intOf]; omega
      have b0 : (xk == 0) = false := by simpa using k0
      have b1 : (xk == 1) = false := by simpa using k1
      have b2 : (xk == 2) = false := by simpa using k2
      have b3 : (xk == 3) = false := by simpa using k3
      go_wp2
      clear b0 b1 b2 b3 HO2 HSb HT
      obtain ⟨wb, hwb⟩ : ∃ wb, wb = wr.alloc (.cells #[.int .i64 xk, .int .i64 xn, .slice lp xl.length lc] 29) := ⟨_, rfl⟩
      rw [← hwb] at HTb HO1 ⊢
      clear hwb
      generalize wr.heap.size = ob at *
      have HTd := hid HTb.out.drew
      have HSd : Hid ((wb).drew.cell? ⟨ob, 1, none⟩ = some (.int .i64 xn)) := HO1.out
      have D1 := hid HTd.out.leftL
      have D2 := hid HTd.out.leftD
      have D3 := hid (HTd.out.freeL xn)
      have D4 := hid (HTd.out.freeD xn)
      generalize left u = A at *
      generalize fr u xn = fx at *
      go_region_held_law (fun w' => w'.cell? ⟨ob, 1, none⟩ = some (.int .i64 xn)) (exact HSd.out)
        (first
          | (go_at_call 15; (with_reducible refine D1.out.mono ?_); rintro e wq ⟨rfl, hw⟩; subst wq)
          | (go_at_call 16; (with_reducible refine D2.out.mono ?_); rintro e wq ⟨rfl, hw⟩; subst wq)
          | (go_at_call 17; (with_reducible refine D3.out.mono ?_); rintro e wq ⟨rfl, hw⟩; subst wq)
          | (go_at_call 18; (with_reducible refine D4.out.mono ?_); rintro e wq ⟨rfl, hw⟩; subst wq)
          | fail)
      go_wp2
      go_roundw
      case rel => exact ⟨k + 1, sb, g, u, rfl, by go_num, by omega, HTd.out⟩
      case measure => simp [RowKit.intOf]; omega
    · have hdec : (l.length : Int) ≤ (k : Int) ∨ ((k : Int) < (l.length : Int) ∧ (100 : Int) ≤ (k : Int)) := by omega
      clear hT hx
      rcases hdec with hd | ⟨hd1, hd2⟩
      all_goals
        go_wp2
        go_ret
        exact ⟨rfl, HT.out.bel⟩
end Go.Proofs.Ytehfbdhkicdfiaa
