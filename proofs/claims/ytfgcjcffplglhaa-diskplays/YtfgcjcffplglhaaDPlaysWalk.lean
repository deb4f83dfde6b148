/- The walk of DiskPlays. Condition: the acts' bools lie within the reach. -/
import Derived.Test.YtfgcjcffplglhaaDkBothAll
namespace Go.Proofs.Ytfgcjcffplglhaa
open Go.RowKit
set_option linter.unusedVariables false

/-- An act of a slice, in a later world; its bytes and bools in the first one. -/
theorem Ops.look {w wr : World} {p : Option Addr} {l : List Opx} (h : Ops w p l) (B : Below w.heap.size w wr) {k : Nat} (hk : k < l.length) :
    ∃ g off bp bc kp kc, p = some ⟨g, off, none⟩ ∧ (wr.cell? ⟨g, off + k * 8, none⟩ = some (.int .i64 l[k].kind) ∧ wr.cell? ⟨g, off + k * 8 + 1, none⟩ = some (.int .i64 l[k].n) ∧ wr.cell? ⟨g, off + k * 8 + 2, none⟩ = some (.int .u8 (l[k].fill.toNat : Int)) ∧ wr.cell? ⟨g, off + k * 8 + 3, none⟩ = some (.slice bp l[k].b.length bc) ∧
      wr.cell? ⟨g, off + k * 8 + 4, none⟩ = some (.bool l[k].long) ∧ wr.cell? ⟨g, off + k * 8 + 5, none⟩ = some (.slice kp l[k].keep.length kc) ∧ wr.cell? ⟨g, off + k * 8 + 6, none⟩ = some (.int .i64 l[k].torn) ∧ wr.cell? ⟨g, off + k * 8 + 7, none⟩ = some (.int .i64 l[k].cut)) ∧
      Byts w bp l[k].b ∧ Bits w kp l[k].keep ∧ l[k].n ≤ 9223372036854775807 ∧ l[k].keep.length ≤ kc := by
  obtain ⟨g, off, hp, bp, bc, kp, kc, c0, c1, c2, c3, c4, c5, c6, c7, hby, hbi, hn, hki, hbc, hkc⟩ := h.at hk
  have f : ∀ {j v}, w.cell? ⟨g, j, none⟩ = some v → wr.cell? ⟨g, j, none⟩ = some v := fun {j v} hc => (World.cell?_of_block (w := w) (a := ⟨g, j, none⟩) (B.block g (cell_lt hc))).trans hc
  exact ⟨g, off, bp, bc, kp, kc, hp, ⟨f c0, f c1, f c2, f c3, f c4, f c5, f c6, f c7⟩, hby, hbi, hn.2, hkc⟩

set_option maxRecDepth 20000 in
set_option maxHeartbeats 4000000 in
theorem dplays_walk (pages : Int) (l : List Opx) (lp : Option Addr) (lc : Nat) (w : World) (hl : l.length ≤ maxLen) (hL : Ops w lp l) (hK : ∀ x ∈ l, x.keep.length ≤ 140737488351232) :
    Calls Try.prog 3 #[.int .i64 pages, .slice lp l.length lc] w fun e w' => e = .returned (.bool true) ∧ Below w.heap.size w w' := by
  by_cases hbad : pages < 1 ∨ 4096 < pages
  · have N1 := new_bad pages w hbad
    have N2 := rnew_bad pages w hbad
    clear hbad hL hK
    go_enter Try.func3, Try.ntmps3
    go_wp2_with (first
      | (go_at_call 9; (with_reducible refine N1.mono ?_); rintro e w1 ⟨rfl, hw⟩; subst hw)
      | (go_at_call 10; (with_reducible refine N2.mono ?_); rintro e w2 ⟨rfl, hw⟩; subst hw)
      | fail)
    go_ret
    exact ⟨rfl, Below.refl _ _⟩
  obtain ⟨P, rfl⟩ : ∃ P : Nat, pages = (P : Int) := ⟨pages.toNat, by omega⟩
  have hP1 : 1 ≤ P := by omega
  have hP2 : P ≤ 4096 := by omega
  have N1 := newD (P : Int) w (by omega) (by omega)
  rw [Int.toNat_natCast] at N1
  have HN1 := hid N1
  have HN2 : Hid (∀ w1 : World, Calls Try.prog 10 #[.int .i64 (P : Int)] w1 fun e w' => e = .returned (.tuple #[.pointer (some ⟨w1.heap.size + 1, 0, none⟩), .int .i64 0]) ∧ RD w' (w1.heap.size + 1) (fun k => w1.heap.size ≤ k ∧ k < w'.heap.size) (Dk.fresh P) ∧ w'.heap.size = w1.heap.size + 2 ∧ Below w1.heap.size w1 w') := fun w1 => rnew_ok P w1 hP1 hP2
  have HL := hid hL
  have HK := hid hK
  clear hbad N1 hL hK hP1
  go_enter Try.func3, Try.ntmps3
  go_wp2_with (first
    | (go_at_call 9; go_loud ((with_reducible refine HN1.out.mono ?_); rintro e w1 ⟨rfl, P1, S1, B1⟩; have HP1 := hid P1; have HB1 := hid B1; have HM2 := hid (HN2.out w1); clear P1 S1 B1 HN1 HN2))
    | (go_at_call 10; go_loud ((with_reducible refine HM2.out.mono ?_); rintro e w2 ⟨rfl, R2, S2, B2⟩; have HT2 := hid (T2.made HP1.out HB1.out R2 B2); clear R2 S2 B2 HP1 HB1 HM2))
    | fail)
  generalize w.heap.size + 2 = db0 at *
  generalize w1.heap.size + 1 = rb at *
  have hmk : ∀ w : World, (Instr.makeSlice 30 (.int .i64 512) (.int .i64 512)).run Try.prog w = .ok (.slice (some ⟨w.heap.size, 0, none⟩) 512 512) (w.alloc (.cells (bcells (zeros 512)).toArray 5)) := fun w => mk_bytes 512 (by omega) w
  go_loopw [5, 9, 10] (fun dv i _ wr => ∃ (k db : Nat) (d : Dk), dv = .pointer (some ⟨db, 0, none⟩) ∧ i = .int .i64 (k : Int) ∧ k ≤ 100 ∧ T2 w.heap.size w wr db rb d d (fun _ => False) ∧ d.pend.length ≤ k ∧ d.pages = P) (fun _ i _ _ => 100 - (RowKit.intOf i).toNat)
  case atStart => exact ⟨0, db0, _, rfl, rfl, by omega, HT2.out, Nat.le_refl _, rfl⟩
  case round =>
    clear HT2
    obtain ⟨k, db, d, rfl, rfl, hk, hT, hln, hpn⟩ := hrel
    have HT := hid hT
    by_cases hx : k < l.length ∧ k < 100
    · obtain ⟨hx1, hx2⟩ := hx
      obtain ⟨g, off, bp, bc, kp, kc, rfl, ⟨c0, c1, c2, c3, c4, c5, c6, c7⟩, hby, hbi, hn, hkc⟩ := HL.out.look hT.bel hx1
      have hkl := HK.out _ (List.getElem_mem hx1)
      have hx2' : (k : Int) < 100 := by omega
      generalize l[k] = x at *
      by_cases hk5 : x.kind = 5
      · have HC := hid (hT.cloneL (by omega))
        have HL1 : Hid (d.pend.length < 1000000) := by show _ < _; omega
        have HL2 : Hid ((d.wr 0 (zeros 512)).pend.length < 1000000) := by have := (Dk.wr_len d 0 (zeros 512)).1; show _ < _; omega
        have HL3 : Hid ((d.wr 0 (zeros 512)).sy.pend.length < 1000000) := by have := (Dk.wr_len d 0 (zeros 512)).1; have := (Dk.sy_len (d.wr 0 (zeros 512))).1; show _ < _; omega
        have HF3 : Hid (∀ w3 : World, T2 w.heap.size w w3 db rb d d (fun k => False ∨ (wr.heap.size ≤ k ∧ k < w3.heap.size)) → PD w3 wr.heap.size (fun k => wr.heap.size ≤ k ∧ k < w3.heap.size) d →
            Calls Try.prog 12 #[.pointer (some ⟨db, 0, none⟩), .int .i64 0, .slice (some ⟨w3.heap.size, 0, none⟩) 512 512] (w3.alloc (.cells (bcells (zeros 512)).toArray 5)) fun e w' => (∃ er, e = .returned (.int .i64 er)) ∧ T2 w.heap.size w w' db rb (d.wr 0 (zeros 512)) d (fun k => False ∨ (wr.heap.size ≤ k ∧ k < w3.heap.size)) ∧ PD w' wr.heap.size (fun k => wr.heap.size ≤ k ∧ k < w3.heap.size) d) := by
          intro w3 t p
          have B : Below w3.heap.size w3 (w3.alloc (.cells (bcells (zeros 512)).toArray 5)) := (Below.refl _ _).alloc (Nat.le_refl _) _
          have q := (t.grow B).writeL 0 (some ⟨w3.heap.size, 0, none⟩) (zeros 512) 512 (Blk.new w3 (bcells (zeros 512)) 5).byts (fun g' o' e => by
            simp only [Option.some.injEq, Addr.mk.injEq] at e
            obtain ⟨F, G, PP, _⟩ := t.ex
            have := PP.lt
            exact Or.inr (Or.inr (by omega))) HL1.out
          rw [zeros_len] at q
          refine q.mono ?_
          rintro e w4 ⟨he, T4, K4⟩
          exact ⟨⟨_, he⟩, T4, (p.below B).kept (fun k f => Or.inr f) K4⟩
        have HF4 : Hid (∀ (b : Nat) (w4 : World), T2 w.heap.size w w4 db rb (d.wr 0 (zeros 512)) d (fun k => False ∨ (wr.heap.size ≤ k ∧ k < b)) → PD w4 wr.heap.size (fun k => wr.heap.size ≤ k ∧ k < b) d →
            Calls Try.prog 13 #[.pointer (some ⟨db, 0, none⟩)] w4 fun e w' => (∃ er, e = .returned (.int .i64 er)) ∧ T2 w.heap.size w w' db rb (d.wr 0 (zeros 512)).sy d (fun k => False ∨ (wr.heap.size ≤ k ∧ k < b)) ∧ PD w' wr.heap.size (fun k => wr.heap.size ≤ k ∧ k < b) d) := by
          intro b w4 t p
          refine (t.syncL HL2.out).mono ?_
          rintro e w5 ⟨he, T5, K5⟩
          exact ⟨⟨_, he⟩, T5, p.kept (fun k f => Or.inr f) K5⟩
        have HF5 : Hid (∀ (b : Nat) (w5 : World), T2 w.heap.size w w5 db rb (d.wr 0 (zeros 512)).sy d (fun k => False ∨ (wr.heap.size ≤ k ∧ k < b)) → PD w5 wr.heap.size (fun k => wr.heap.size ≤ k ∧ k < b) d →
            Calls Try.prog 14 #[.pointer (some ⟨db, 0, none⟩), .slice none 0 0, .int .i64 (-1), .int .i64 0] w5 fun e w' => e = .returned (.tuple #[]) ∧ T2 w.heap.size w w' wr.heap.size rb d d (fun _ => False)) := by
          intro b w5 t p
          refine (t.mendL none [] 0 (-1) 0 HL3.out (Or.inl rfl) (fun q => absurd rfl q)).mono ?_
          rintro e w6 ⟨he, T6, K6⟩
          exact ⟨he, T6.swap (p.kept (fun k f => Or.inr f) K6) HT.out.size (fun k f => f.elim)⟩
        have HLm : Hid (d.pend.length < 1000000) := HL1.out
        have HLn : Hid (d.pend.length ≤ k + 1) := by show _ ≤ _; omega
        have HPn := hid hpn
        rw [hk5] at c0
        clear hT hby hbi hn hkc hkl c1 c2 c3 c4 c5 c6 c7 hln hpn HL1 HL2 HL3
        go_wp2_with (first
          | (go_at_call 11; go_loud ((with_reducible refine HC.out.mono ?_); rintro e w3 ⟨rfl, T3, P3⟩; have HW3 := hid (HF3.out w3 T3 P3); clear T3 P3 HC))
          | (go_at_call 12; go_loud ((with_reducible refine HW3.out.mono ?_); rintro e w4 ⟨⟨er4, rfl⟩, T4, P4⟩; have HW4 := hid (HF4.out w3.heap.size w4 T4 P4); clear T4 P4 HW3))
          | (go_at_call 13; go_loud ((with_reducible refine HW4.out.mono ?_); rintro e w5 ⟨⟨er5, rfl⟩, T5, P5⟩; have HW5 := hid (HF5.out w3.heap.size w5 T5 P5); clear T5 P5 HW4))
          | (go_at_call 14; go_loud ((with_reducible refine HW5.out.mono ?_); rintro e w8 ⟨rfl, T8⟩; have HT8 := hid T8; clear T8 HW5))
          | fail)
        clear HF3 HF4 HF5 HT
        generalize wr.heap.size = cb at *
        have HTd := hid (HT8.out.grow (Below.refl _ _).drew)
        have HSd : Hid (w8.drew.cell? ⟨rb, 3, none⟩ = some (.bool d.down)) := HTd.out.downR
        have HP1 := hid HTd.out.pagesL
        have HP2 := hid HTd.out.pagesR
        have HDn := hid HTd.out.downL
        have HPe := hid (HTd.out.pendL HLm.out)
        have HPr : Hid (∀ w9 : World, T2 w.heap.size w w9 cb rb d d (fun _ => False) → Calls Try.prog 21 #[.pointer (some ⟨rb, 0, none⟩)] w9 fun e w' => (∃ p c, e = .returned (.slice p (d.pend.map (·.1)).length c) ∧ Ints w' p (d.pend.map (·.1))) ∧ Below w9.heap.size w9 w') := fun w9 t => t.pendR HLm.out
        have HSI : Hid (∀ (p q : Option Addr) (c e : Nat) (w9 : World), Ints w9 p (d.pend.map (·.1)) → Ints w9 q (d.pend.map (·.1)) → Calls Try.prog 19 #[.slice p (d.pend.map (·.1)).length c, .slice q (d.pend.map (·.1)).length e] w9 fun e w' => e = .returned (.bool true) ∧ Below w9.heap.size w9 w') := fun p q c e w9 a b => sameints_any p q c e _ w9 a b (by rw [List.length_map]; exact HLm.out)
        generalize d.pend.map (·.1) = pl at *
        go_region_held_law (fun w' => w'.cell? ⟨rb, 3, none⟩ = some (.bool d.down)) (first | exact HSd.out | exact HS9.out | exact HS10.out | exact HS11.out)
          (first
            | (go_at_call 16; (with_reducible refine HP1.out.mono ?_); rintro e wq ⟨rfl, hw⟩; subst hw)
            | (go_at_call 17; (with_reducible refine HP2.out.mono ?_); rintro e wq ⟨rfl, hw⟩; subst hw)
            | (go_at_call 18; (with_reducible refine HDn.out.mono ?_); rintro e wq ⟨rfl, hw⟩; subst hw)
            | (go_at_call 20; go_loud ((with_reducible refine HPe.out.mono ?_); rintro e w9 ⟨⟨p9, c9, rfl, i9⟩, B9⟩; have HT9 := hid (HTd.out.grow B9); have HS9 := hid HT9.out.downR; have HI9 := hid i9; have HP9 := hid (HPr.out w9 HT9.out); clear i9 B9))
            | (go_at_call 21; go_loud ((with_reducible refine HP9.out.mono ?_); rintro e w10 ⟨⟨p10, c10, rfl, i10⟩, B10⟩; have HT10 := hid (HT9.out.grow B10); have HS10 := hid HT10.out.downR; have HI10 := hid (HSI.out p9 p10 c9 c10 w10 (HI9.out.below B10) i10); clear i10 B10))
            | (go_at_call 19; go_loud ((with_reducible refine HI10.out.mono ?_); rintro e w11 ⟨rfl, B11⟩; have HT11 := hid (HT10.out.grow B11); have HS11 := hid HT11.out.downR; clear B11))
            | fail)
        go_wp2
        go_roundw
        case rel => exact ⟨k + 1, cb, d, rfl, by go_num, by omega, HT11.out, HLn.out, HPn.out⟩
        case measure => simp [RowKit.intOf]; omega
      · have HB := hid (both_all x bp kp bc kc hT (by omega) hby hbi hkl hkc hn)
        have ha := Dk.act_len d x
        have HLm : Hid ((d.act x).pend.length < 1000000) := by show _ < _; omega
        have HLn : Hid ((d.act x).pend.length ≤ k + 1) := by show _ ≤ _; omega
        have HPn : Hid ((d.act x).pages = P) := by show _ = _; rw [ha.2, hpn]
        have hk5b : (x.kind == 5) = false := by simpa using hk5
        clear hT hby hbi hn hkc hkl hln hpn ha HT
        generalize d.act x = d8 at *
        generalize x.kind = xk at *
        generalize x.n = xn at *
        generalize x.fill = xf at *
        generalize x.b = xb at *
        generalize x.long = xl at *
        generalize x.keep = xe at *
        generalize x.torn = xt at *
        generalize x.cut = xc at *
        clear d
        go_wp2_with (first
          | (go_at_call 15; go_loud ((with_reducible refine HB.out.mono ?_); rintro e w8 ⟨rfl, T8⟩; have HT8 := hid T8; clear T8 HB))
          | fail)
        have HTd := hid (HT8.out.grow (Below.refl _ _).drew)
        have HSd : Hid (w8.drew.cell? ⟨rb, 3, none⟩ = some (.bool d8.down)) := HTd.out.downR
        have HP1 := hid HTd.out.pagesL
        have HP2 := hid HTd.out.pagesR
        have HDn := hid HTd.out.downL
        have HPe := hid (HTd.out.pendL HLm.out)
        have HPr : Hid (∀ w9 : World, T2 w.heap.size w w9 db rb d8 d8 (fun _ => False) → Calls Try.prog 21 #[.pointer (some ⟨rb, 0, none⟩)] w9 fun e w' => (∃ p c, e = .returned (.slice p (d8.pend.map (·.1)).length c) ∧ Ints w' p (d8.pend.map (·.1))) ∧ Below w9.heap.size w9 w') := fun w9 t => t.pendR HLm.out
        have HSI : Hid (∀ (p q : Option Addr) (c e : Nat) (w9 : World), Ints w9 p (d8.pend.map (·.1)) → Ints w9 q (d8.pend.map (·.1)) → Calls Try.prog 19 #[.slice p (d8.pend.map (·.1)).length c, .slice q (d8.pend.map (·.1)).length e] w9 fun e w' => e = .returned (.bool true) ∧ Below w9.heap.size w9 w') := fun p q c e w9 a b => sameints_any p q c e _ w9 a b (by rw [List.length_map]; exact HLm.out)
        generalize d8.pend.map (·.1) = pl at *
        go_region_held_law (fun w' => w'.cell? ⟨rb, 3, none⟩ = some (.bool d8.down)) (first | exact HSd.out | exact HS9.out | exact HS10.out | exact HS11.out)
          (first
            | (go_at_call 16; (with_reducible refine HP1.out.mono ?_); rintro e wq ⟨rfl, hw⟩; subst hw)
            | (go_at_call 17; (with_reducible refine HP2.out.mono ?_); rintro e wq ⟨rfl, hw⟩; subst hw)
            | (go_at_call 18; (with_reducible refine HDn.out.mono ?_); rintro e wq ⟨rfl, hw⟩; subst hw)
            | (go_at_call 20; go_loud ((with_reducible refine HPe.out.mono ?_); rintro e w9 ⟨⟨p9, c9, rfl, i9⟩, B9⟩; have HT9 := hid (HTd.out.grow B9); have HS9 := hid HT9.out.downR; have HI9 := hid i9; have HP9 := hid (HPr.out w9 HT9.out); clear i9 B9))
            | (go_at_call 21; go_loud ((with_reducible refine HP9.out.mono ?_); rintro e w10 ⟨⟨p10, c10, rfl, i10⟩, B10⟩; have HT10 := hid (HT9.out.grow B10); have HS10 := hid HT10.out.downR; have HI10 := hid (HSI.out p9 p10 c9 c10 w10 (HI9.out.below B10) i10); clear i10 B10))
            | (go_at_call 19; go_loud ((with_reducible refine HI10.out.mono ?_); rintro e w11 ⟨rfl, B11⟩; have HT11 := hid (HT10.out.grow B11); have HS11 := hid HT11.out.downR; clear B11))
            | fail)
        go_wp2
        go_roundw
        case rel => exact ⟨k + 1, db, d8, rfl, by go_num, by omega, HT11.out, HLn.out, HPn.out⟩
        case measure => simp [RowKit.intOf]; omega
    · have hxx : l.length ≤ k ∨ (k < l.length ∧ ¬ ((k : Int) < 100)) := by omega
      have HLm : Hid (d.pend.length < 1000000) := by show _ < _; omega
      clear hT hx hln hpn
      by_cases h64 : 64 < (P : Int)
      · rcases hxx with hxx | ⟨hxx, hxi⟩
        all_goals (
          go_wp2
          go_quiet (fail)
          go_wp2
          go_ret
          exact ⟨rfl, below_dn HT.out.bel _⟩)
      · have hd1 : decide (64 < (P : Int)) = false := decide_eq_false h64
        have hd3 : ¬ (64 < P) := by omega
        have hd4 : decide (64 < P) = false := decide_eq_false hd3
        have HTd := hid (HT.out.grow (Below.refl _ _).drew)
        have HI1 := hid HTd.out.imageL
        have HI2 : Hid (∀ w9 : World, T2 w.heap.size w w9 db rb d d (fun _ => False) → Calls Try.prog 23 #[.pointer (some ⟨rb, 0, none⟩)] w9 fun e w' => (∃ p c, e = .returned (.slice p d.img.length c) ∧ Byts w' p d.img) ∧ Below w9.heap.size w9 w') := fun w9 t => t.imageR HLm.out
        have HCv : Hid (∀ (w9 : World) (p : Option Addr) (c : Nat), Byts w9 p d.img → (convert 30 9 (.slice p d.img.length c)).run Try.prog w9 = .ok (.string ⟨d.img.toArray⟩) w9) := fun w9 p c h => conv_byts c h
        generalize d.img = im at *
        rcases hxx with hxx | ⟨hxx, hxi⟩
        all_goals (
          go_wp2
          go_region_held_law (fun _ => True) (trivial)
            (first
              | (go_at_call 22; go_loud ((with_reducible refine HI1.out.mono ?_); rintro e w9 ⟨⟨p9, c9, rfl, y9⟩, B9⟩; have u9 := HCv.out w9 p9 c9 y9; have HT9 := hid (HTd.out.grow B9); have HI9 := hid (HI2.out w9 HT9.out); have HY9 := hid y9; clear y9 B9))
              | (go_at_call 23; go_loud ((with_reducible refine HI9.out.mono ?_); rintro e w10 ⟨⟨p10, c10, rfl, y10⟩, B10⟩; have u10 := HCv.out w10 p10 c10 y10; have u9b := HCv.out w10 p9 c9 (HY9.out.below B10); have HT10 := hid (HT9.out.grow B10); clear y10 B10))
              | fail)
          all_goals go_wp2
          all_goals go_ret
          all_goals exact ⟨rfl, HT10.out.bel⟩)
end Go.Proofs.Ytfgcjcffplglhaa
