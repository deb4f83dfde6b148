/- The walk of DiskLoads. Condition: the image lies within the reach. -/
import Derived.Test.YtfgcjcffplglhaaDkRefLoad
namespace Go.Proofs.Ytfgcjcffplglhaa
open Go.RowKit
set_option linter.unusedVariables false

/-- A row of bytes that is written into. -/
theorem own_set {w : World} {base g n c : Nat} {l : List UInt8} (o : OwnB w base (.slice (some ⟨g, 0, none⟩) n c) l) {k : Nat} (hk : k < l.length) : ∃ b : UInt8, w.cell? ⟨g, k, none⟩ = some (.int .u8 (b.toNat : Int)) ∧ w.frozen? ⟨g, k, none⟩ = false ∧ ∀ x : UInt8, OwnB (w.setCell ⟨g, k, none⟩ (.int .u8 (x.toNat : Int))) base (.slice (some ⟨g, 0, none⟩) n c) (l.set k x) := by
  obtain ⟨h1, h2⟩ := o
  rcases h2 with ⟨e, _⟩ | ⟨g', cap, cur, e, hg, hh, hle, hm, hs, ht⟩
  · cases e
  · simp only [Value.slice.injEq, Option.some.injEq, Addr.mk.injEq, and_true] at e
    obtain ⟨rfl, rfl, rfl⟩ := e
    refine ⟨l[k], ?_, ?_, fun x => ?_⟩
    · have hu := bcells_at hk
      rw [← ht, List.getElem?_take, if_pos (by omega), Array.getElem?_toList] at hu
      simp [World.cell?, hh, hu]
    · simp [World.frozen?, hh]
    · have hlen : (l.set k x).length = l.length := List.length_set
      refine ⟨by rw [bcells_len]; omega, Or.inr ⟨g, c, _, by rw [hlen], hg, heap_setCell_same w g k cur 5 _ hh, by rw [hlen]; exact hle, hm, by simpa using hs, ?_⟩⟩
      rw [hlen, Array.toList_setIfInBounds, List.take_set, ht, bcells_set]
theorem own_is {w : World} {base : Nat} {v : Value} {l : List UInt8} (o : OwnB w base v l) (h : 0 < l.length) : ∃ g c, v = .slice (some ⟨g, 0, none⟩) l.length c ∧ base ≤ g ∧ l.length ≤ c := by
  rcases o.2 with ⟨_, h0⟩ | ⟨g, cap, cur, e, hg, hh, hle, _⟩
  · omega
  · exact ⟨g, cap, e, hg, hle⟩
theorem own_byts {w : World} {base g n c : Nat} {l : List UInt8} (o : OwnB w base (.slice (some ⟨g, 0, none⟩) n c) l) : Byts w (some ⟨g, 0, none⟩) l := by
  obtain ⟨p, c', e, b, _⟩ := o.byts
  simp only [Value.slice.injEq] at e
  rw [e.1]
  exact b
theorem u8_inc (b : UInt8) : ∃ x : UInt8, IntKind.u8.wrap ((b.toNat : Int) + 1) = (x.toNat : Int) := by
  refine ⟨UInt8.ofNat ((b.toNat + 1) % 256), ?_⟩
  have e : IntKind.u8.wrap ((b.toNat : Int) + 1) = ((b.toNat : Int) + 1) % 256 := by simp [IntKind.wrap, IntKind.bits, IntKind.signed]
  rw [e]
  have : (UInt8.ofNat ((b.toNat + 1) % 256)).toNat = (b.toNat + 1) % 256 := by simp
  rw [this]
  omega
/-- append of nothing onto a slice of no bytes. -/
theorem app_none0 {ops : Array Oper} {rest : List Oper} {o : Oper} {a : Act} {w : World} {Q : Exit → Act → World → Prop} (s x : Operand) (hgd : o.guard = none)
    (ho : o.op = .call { callee := .builtin .append, args := #[s, x], argTypes := #[30, 30] }) (g : Nat) (c0 : Nat) (hs : a.eval s = .slice (some ⟨g, 0, none⟩) 0 c0) (p : Option Addr) (c : Nat) (hx : a.eval x = .slice p 0 c)
    (h : wpList Try.prog ops Q rest (a.put o.dst (.slice (some ⟨g, 0, none⟩) 0 c0)) w) : wpList Try.prog ops Q (o :: rest) a w := by
  obtain ⟨i0, hi, hz0, hz1, hz2⟩ := info_parts infoByte
  refine wpList_plain hgd fun K hK => ?_
  have hr : (Builtin.append_ #[30, 30] o.type #[.slice (some ⟨g, 0, none⟩) 0 c0, .slice p 0 c]).run Try.prog w = .ok (.slice (some ⟨g, 0, none⟩) 0 c0) w := by
    cases p with
    | none => simp [Builtin.append_, run_underlying Try.underlying30, Builtin.lenOf, Builtin.firstCells, sizeOf, typeInfo, hi, storeCells]
    | some ad =>
      have hl : (loadCells ad 0).run Try.prog w = .ok #[] w := by simpa using run_loadCells_list (P := Try.prog) w ad [] (by simp)
      simp [Builtin.append_, run_underlying Try.underlying30, Builtin.lenOf, Builtin.firstCells, sizeOf, typeInfo, hi, storeCells, hl]
  unfold Oper.wp execOp
  simp only [ho, resolve, invoke, builtin, Sem.run_bind, Sem.run_pure, Result.andThen_ok, List.map_toArray, List.map_cons, List.map_nil, hs, hx, hr]
  exact hK _ _ h
/-- Behind a step that turned a protected block alone. -/
theorem DW.other {s : Nat} {w0 w : World} {db : Nat} {d : Dk} {Z : Nat → Prop} (h : DW s w0 w db d Z) {g : Nat} {w' : World} (hz : Z g) (hs : s ≤ g) (C : Chg (· = g) w w') : DW s w0 w' db d Z :=
  ⟨h.bel.trans (C.below (fun k e => by rw [e]; exact hs) h.size), Nat.le_trans h.size C.size, fun k hk => Nat.lt_of_lt_of_le (h.lt k hk) C.size, h.pd.chg C (fun k f e => f.2 (by rw [e]; exact hz))⟩
theorem DW.image {s : Nat} {w0 w : World} {db : Nat} {d : Dk} {Z : Nat → Prop} (h : DW s w0 w db d Z) : Calls Try.prog 22 #[.pointer (some ⟨db, 0, none⟩)] w fun e w' => ∃ v, e = .returned v ∧ OwnB w' w.heap.size v d.img ∧ Below w.heap.size w w' := by
  obtain ⟨lb, nb, pv, P, _⟩ := h.pd
  exact image_any db lb nb pv d w P

set_option maxRecDepth 20000 in
set_option maxHeartbeats 4000000 in
theorem dloads_walk (l : List UInt8) (f : UInt8) (n : Int) (p : Option Addr) (c : Nat) (w : World) (hl : l.length ≤ 140737488351232) (hc : l.length ≤ c) (hB : Byts w p l) :
    Calls Try.prog 4 #[.slice p l.length c, .int .u8 (f.toNat : Int), .int .i64 n] w fun e w' => e = .returned (.bool true) ∧ Below w.heap.size w w' := by
  have HWk := hid (works_any w)
  have HBy := hid hB
  have HLl := hid hl
  obtain ⟨q, hq⟩ : ∃ q, wrap64 ((IntKind.u64.wrap n).tmod 6) = q := ⟨_, rfl⟩
  have hqb := umod_bd n 6 (by omega) (by omega)
  rw [hq] at hqb
  obtain ⟨hq0, hq1⟩ := hqb
  obtain ⟨Q, rfl⟩ : ∃ Q : Nat, q = (Q : Int) := ⟨q.toNat, by omega⟩
  obtain ⟨L, hL⟩ : ∃ L, L = (1 + Q) * 512 := ⟨_, rfl⟩
  have hmk : ∀ w : World, (Instr.makeSlice 30 (.int .i64 ((1 + (Q : Int)) * 512)) (.int .i64 ((1 + (Q : Int)) * 512))).run Try.prog w = .ok (.slice (some ⟨w.heap.size, 0, none⟩) L L) (w.alloc (.cells (bcells (zeros L)).toArray 5)) := fun w => by
    have := mk_bytes L (by omega) w
    rwa [show (L : Int) = (1 + (Q : Int)) * 512 by omega] at this
  have HFl : Hid ((fills f L).length = L) := fills_len ..
  have HLo : Hid (∀ (w5 : World) (gb : Nat), Blk w5 gb (bcells (fills f L)) 5 → Calls Try.prog 25 #[.slice (some ⟨gb, 0, none⟩) L L] w5 fun e w' => e = .returned (.tuple #[.pointer (some ⟨w5.heap.size + 2, 0, none⟩), .int .i64 0]) ∧ PD w' (w5.heap.size + 2) (fun k => w5.heap.size ≤ k ∧ k < w'.heap.size) (loaded (fills f L)) ∧ Below w5.heap.size w5 w') := fun w5 gb b => by
    have t := load_ok (fills f L) (some ⟨gb, 0, none⟩) L w5 (by rw [HFl.out]; omega) (by rw [HFl.out]; omega) (by rw [HFl.out]; omega) (by rw [HFl.out]; exact Nat.le_refl _) b.byts
    rw [HFl.out] at t
    exact t
  have HPa : Hid (∀ (w5 : World) (db : Nat) F, PD w5 db F (loaded (fills f L)) → Calls Try.prog 16 #[.pointer (some ⟨db, 0, none⟩)] w5 fun e w' => e = .returned (.int .i64 (1 + (Q : Int))) ∧ w' = w5) := fun w5 db F P => by
    have t := pagesD db F _ w5 P
    rw [show (loaded (fills f L)).pages = 1 + Q from by unfold loaded; rw [(loadTo_rest _ _ _).1, HFl.out]; omega] at t
    rwa [Int.natCast_add] at t
  have HIm : Hid (∀ (w5 : World) (db : Nat) F, PD w5 db F (loaded (fills f L)) → Calls Try.prog 22 #[.pointer (some ⟨db, 0, none⟩)] w5 fun e w' => ∃ v, e = .returned v ∧ OwnB w' w5.heap.size v (fills f L) ∧ Below w5.heap.size w5 w') := fun w5 db F P => by
    obtain ⟨lb, nb, pv, PP, _⟩ := P
    have t := image_any db lb nb pv _ w5 PP
    rw [loaded_img (by rw [HFl.out]; omega)] at t
    exact t
  have hLb : L ≤ 3072 := by omega
  have HLb := hid hLb
  have hQ6 : (Q : Int) < 6 := by omega
  clear hL hq0 hq1 hLb
  clear hB hl
  by_cases hem : l = []
  · subst hem
    have HLd : Hid (∀ (w3 : World) (pp : Option Addr) (cc : Nat), Calls Try.prog 25 #[.slice pp 0 cc] w3 fun e w' => e = .returned (.tuple #[.pointer none, .int .i64 2]) ∧ w' = w3) := fun w3 pp cc => load_bad [] pp cc w3 (by simp) (by simp)
    have HRd : Hid (∀ w3 : World, Calls Try.prog 26 #[.slice p 0 c] w3 fun e w' => e = .returned (.tuple #[.pointer none, .int .i64 2]) ∧ w' = w3) := fun w3 => rload_bad [] _ c w3 (by simp) (by simp)
    clear HBy
    show Calls Try.prog 4 #[.slice p 0 c, .int .u8 (f.toNat : Int), .int .i64 n] w _
    go_enter Try.func4, Try.ntmps4
    go_wp2_with (first
      | (go_at_call 24; (with_reducible refine HWk.out.mono ?_); rintro e w1 ⟨rfl, B1⟩; have HB1 := hid B1; have hs1 := B1.size; clear B1 HWk)
      | (at_builtin; go_loud (refine app_none0 _ _ rfl rfl _ _ rfl _ _ rfl ?_; try go_frame))
      | (go_at_call 25; go_loud ((with_reducible refine (HLd.out _ _ _).mono ?_); rintro e w3 ⟨rfl, hw3⟩; subst hw3; clear HLd))
      | (go_at_call 26; go_loud ((with_reducible refine (HRd.out _).mono ?_); rintro e w4 ⟨rfl, hw4⟩; have HBX := hid (show Below w.heap.size w w4 from by rw [hw4]; exact HB1.out.alloc hs1 _); clear hw4; clear HRd))
      | fail)
    have HSz := hid HBX.out.size
    have HG := hid (show Blk (w4.alloc (.cells (bcells (zeros L)).toArray 5)) w4.heap.size (bcells (fillTo f L 0)) 5 from by rw [fillTo_zero]; exact Blk.new w4 _ _)
    have HB5 := hid ((HBX.out).alloc HSz.out (.cells (bcells (zeros L)).toArray 5))
    clear hmk
    go_loopw [14] (fun i wr => ∃ k : Nat, i = .int .i64 (k : Int) ∧ k ≤ L ∧ Blk wr w4.heap.size (bcells (fillTo f L k)) 5 ∧ Below w.heap.size w wr) (fun i _ => L - (RowKit.intOf i).toNat)
    case atStart => exact ⟨0, rfl, Nat.zero_le _, HG.out, HB5.out⟩
    case round =>
      clear HG HB5
      obtain ⟨k, rfl, hk, hG, hBl⟩ := hrel
      have HG := hid hG
      have HBl := hid hBl
      have gf := hG.frozen k
      clear hG hBl
      have hLi : (L : Int) ≤ 3072 := by have := HLb.out; omega
      by_cases hx : k < L
      · have gc : wr.cell? ⟨w4.heap.size, k, none⟩ = some (.int .u8 ((fillTo f L k)[k]'(by rw [fillTo_len hk]; exact hx)).toNat) := (HG.out.cell k).trans (bcells_at _)
        generalize (fillTo f L k)[k]'(by rw [fillTo_len hk]; exact hx) = old at gc
        go_wp2
        go_roundw
        case rel =>
          refine ⟨k + 1, by go_num, by omega, ?_, HBl.out.setCell HSz.out _⟩
          have q := HG.out.set (i := k) (.int .u8 (f.toNat : Int))
          rw [bcells_set, fillTo_next hx] at q
          exact q
        case measure => simp [RowKit.intOf]; omega
      · obtain rfl : k = L := by omega
        have HGf : Hid (Blk wr w4.heap.size (bcells (fills f k)) 5) := by have := HG.out; rwa [fillTo_all] at this
        have HL2 := hid (HLo.out wr _ HGf.out)
        clear HG gf
        go_wp2_with (first
          | (go_at_call 25; go_loud ((with_reducible refine HL2.out.mono ?_); rintro e w6 ⟨rfl, P6, B6⟩; have HP6 := hid P6; have HB6 := hid B6; have HBB6 := hid (HBl.out.trans (B6.mono HBl.out.size)); have HG6 := hid (HGf.out.below B6 HGf.out.lt); clear P6 B6))
          | fail)
        have cv : (convert 30 9 (.slice (some ⟨w4.heap.size, 0, none⟩) k k)).run Try.prog w6 = .ok (.string ⟨(fills f k).toArray⟩) w6 := by
          have := conv_byts k HG6.out.byts
          rwa [HFl.out] at this
        have cvd : Hid ((convert 30 9 (.slice (some ⟨w4.heap.size, 0, none⟩) k k)).run Try.prog w6.drew = .ok (.string ⟨(fills f k).toArray⟩) w6.drew) := by
          have := conv_byts (w := w6.drew) k (show Byts w6.drew (some ⟨w4.heap.size, 0, none⟩) (fills f k) from HG6.out.byts)
          rwa [HFl.out] at this
        have HPg := hid (HPa.out w6.drew _ _ (HP6.out.below (Below.refl _ _).drew))
        have HIg := hid (HIm.out w6.drew _ _ (HP6.out.below (Below.refl _ _).drew))
        have HCv : Hid (∀ w7 : World, Below w6.heap.size w6 w7 → (convert 30 9 (.slice (some ⟨w4.heap.size, 0, none⟩) k k)).run Try.prog w7 = .ok (.string ⟨(fills f k).toArray⟩) w7) := fun w7 B => by
          have := conv_byts (w := w7) k (HG6.out.below B HG6.out.lt).byts
          rwa [HFl.out] at this
        clear cv
        go_region_held_law (fun w' => (convert 30 9 (.slice (some ⟨w4.heap.size, 0, none⟩) k k)).run Try.prog w' = .ok (.string ⟨(fills f k).toArray⟩) w') (first | exact cvd.out | exact HK7.out)
          ((first
            | (go_at_call 16; (with_reducible refine HPg.out.mono ?_); rintro e w7 ⟨rfl, hw7⟩; subst hw7)
            | (go_at_call 22; (with_reducible refine HIg.out.mono ?_); rintro e w7 ⟨v7, rfl, O7, B7⟩; obtain ⟨pi, ci, hv7, hby7, _⟩ := O7.byts; subst hv7; have v1 := conv_byts ci hby7; have HK7 := hid (HCv.out w7 ((Below.refl _ _).drew.trans B7)); have HB7 := hid (HBB6.out.trans (((Below.refl _ _).drew.trans B7).mono HBB6.out.size)); clear O7 B7 hby7)
            | fail))
        all_goals go_wp2
        all_goals go_ret
        all_goals exact ⟨rfl, HB7.out⟩
  · have hpos : 0 < l.length := List.length_pos_iff.2 hem
    obtain ⟨g, off, rfl⟩ : ∃ g off, p = some ⟨g, off, none⟩ := by
      rcases HBy.out with h | ⟨g, off, h, _⟩
      · exact absurd h hem
      · exact ⟨g, off, h⟩
    have HPos := hid hpos
    by_cases hok : l.length % 512 = 0 ∧ l.length / 512 ≤ 4096
    · have hdv : 1 ≤ l.length / 512 := by omega
      have HRd : Hid (∀ w3 : World, Byts w3 (some ⟨g, off, none⟩) l → Calls Try.prog 26 #[.slice (some ⟨g, off, none⟩) l.length c] w3 fun e w' => ∃ rb, e = .returned (.tuple #[.pointer (some ⟨rb, 0, none⟩), .int .i64 0]) ∧ Below w3.heap.size w3 w') := fun w3 b => rload_ok l g off c w3 hpos hok.1 (by omega) b
      have HLd : Hid (∀ (w3 : World) (pp : Option Addr) (cc : Nat), l.length ≤ cc → Byts w3 pp l → Calls Try.prog 25 #[.slice pp l.length cc] w3 fun e w' => e = .returned (.tuple #[.pointer (some ⟨w3.heap.size + 2, 0, none⟩), .int .i64 0]) ∧ PD w' (w3.heap.size + 2) (fun k => w3.heap.size ≤ k ∧ k < w'.heap.size) (loaded l) ∧ Below w3.heap.size w3 w') := fun w3 pp cc h1 h2 => load_ok l pp cc w3 hok.1 hdv hok.2 h1 h2
      have HI1 : Hid (∀ (w5 : World) (db : Nat) Z, DW w.heap.size w w5 db (loaded l) Z → Calls Try.prog 22 #[.pointer (some ⟨db, 0, none⟩)] w5 fun e w' => ∃ v, e = .returned v ∧ OwnB w' w5.heap.size v l ∧ Below w5.heap.size w5 w') := fun w5 db Z D => by
        have t := D.image
        rw [loaded_img hok.1] at t
        exact t
      have hlb : (l.length : Int) ≤ 2097152 := by omega
      clear hok hpos hem hdv
      go_enter Try.func4, Try.ntmps4
      go_wp2_with (first
        | (go_at_call 24; (with_reducible refine HWk.out.mono ?_); rintro e w1 ⟨rfl, B1⟩; have HB1 := hid B1; have HX1 := hid ((HBy.out.kept (fun k hk => B1.block k hk)).alloc (.cells #[] 5)); have hs1 := B1.size; clear B1 HWk)
        | (at_builtin; go_loud (refine appBlk w1.heap.size _ _ _ [] l rfl rfl rfl _ _ _ _ rfl ?hn ?hO ?hX ?hm ?hl ?hb ?_; (case hn => rfl); (case hO => exact own_new w1); (case hX => exact HX1.out); (case hm => exact HPos.out); (case hl => have := HLl.out; simp; omega); (case hb => simp); intro v' w2 O2 G2 A2; have HB2 := hid ((below_own ((Below.refl w1.heap.size w1).alloc (Nat.le_refl _) (.cells #[] 5)) G2 (by simp) (fun k hk => (World.ownsRow.lt (own_new w1) k hk).1))); rw [List.nil_append] at O2; obtain ⟨go0, co, hvq, hgo, hco⟩ := own_is O2 HPos.out; subst hvq; have HO2 := hid O2; have HL3 := hid (HLd.out w2 _ co hco (own_byts O2)); clear O2 G2 A2; try go_frame))
        | (go_at_call 25; go_loud ((with_reducible refine HL3.out.mono ?_); rintro e w3 ⟨rfl, P3, B3⟩; have HD3 := hid (DW.made (n := 0) P3 B3 (Nat.le_trans hs1 HB2.out.size) (HB1.out.trans (HB2.out.mono hs1))); have HO3 := hid (HO2.out.below B3); have HB3 := hid B3; have HR3 := hid (HRd.out w3 (HBy.out.kept (fun k hk => HD3.out.bel.block k hk))); clear P3 B3 HLd))
        | (go_at_call 26; go_loud ((with_reducible refine HR3.out.mono ?_); rintro e w4 ⟨rb, rfl, B4⟩; have HD4 := hid (HD3.out.grow B4); have HO4 := hid (HO3.out.below B4); clear B4 HRd))
        | fail)
      have HGo : Hid (w.heap.size ≤ go0 ∧ go0 < w2.heap.size) := ⟨Nat.le_trans hs1 (World.ownsRow.lt HO2.out go0 rfl).1, (World.ownsRow.lt HO2.out go0 rfl).2⟩
      generalize w2.heap.size + 2 = db at *
      clear HD3 HO3 HO2 HL3 HR3 HB3 HX1
      go_loopw [12] (fun i wr => ∃ (k : Nat) (l' : List UInt8), i = .int .i64 (k : Int) ∧ k ≤ l.length ∧ l'.length = l.length ∧ OwnB wr w1.heap.size (.slice (some ⟨go0, 0, none⟩) l.length co) l' ∧ DW w.heap.size w wr db (loaded l) (fun k => w.heap.size ≤ k ∧ k < w2.heap.size)) (fun i _ => l.length - (RowKit.intOf i).toNat)
      case atStart => exact ⟨0, l, rfl, Nat.zero_le _, rfl, HO4.out, HD4.out⟩
      case round =>
        clear HO4 HD4
        obtain ⟨k, l', rfl, hk, hl', hO, hD⟩ := hrel
        have HD := hid hD
        by_cases hx : k < l.length
        · obtain ⟨b, y1, y2, y3⟩ := own_set hO (k := k) (by rw [hl']; exact hx)
          obtain ⟨x, hinc⟩ := u8_inc b
          have HO' := hid (y3 x)
          have HLs : Hid ((l'.set k x).length = l.length) := by show _ = _; rw [List.length_set, hl']
          clear hO hD y3 hl'
          go_wp2
          go_roundw
          case rel => exact ⟨k + 1, l'.set k x, by go_num, by omega, HLs.out, HO'.out, HD.out.other HGo.out HGo.out.1 ((Chg.refl (· = go0) wr).setCell (Or.inl rfl) _)⟩
          case measure => simp [RowKit.intOf]; omega
        · obtain rfl : k = l.length := by omega
          clear hO hD hl' HGo
          go_wp2
          have HBw : Hid (Byts wr.drew (some ⟨g, off, none⟩) l) := HBy.out.kept (fun k hk => HD.out.bel.block k hk)
          have cvd := hid (conv_byts c HBw.out)
          have HIg := hid (HI1.out wr.drew _ _ (HD.out.grow (Below.refl _ _).drew))
          have HCv : Hid (∀ w9 : World, Below wr.heap.size wr w9 → (convert 30 9 (.slice (some ⟨g, off, none⟩) l.length c)).run Try.prog w9 = .ok (.string ⟨l.toArray⟩) w9) := fun w9 B => conv_byts c (HBy.out.kept (fun k hk => (HD.out.bel.trans (B.mono HD.out.size)).block k hk))
          have HBD := hid HD.out.bel
          have HSD := hid HD.out.size
          clear HI1 HD
          go_region_held_law (fun w' => (convert 30 9 (.slice (some ⟨g, off, none⟩) l.length c)).run Try.prog w' = .ok (.string ⟨l.toArray⟩) w') (first | exact cvd.out | exact HK9.out)
            ((first
              | (go_at_call 22; (with_reducible refine HIg.out.mono ?_); rintro e w9 ⟨v9, rfl, O9, B9⟩; obtain ⟨pi9, ci9, hv9, hby9, _⟩ := O9.byts; subst hv9; have v19 := conv_byts ci9 hby9; have HK9 := hid (HCv.out w9 ((Below.refl _ _).drew.trans B9)); have HB9 := hid (HBD.out.trans (((Below.refl _ _).drew.trans B9).mono HSD.out)); have HSz := hid (Nat.le_trans HSD.out B9.size); clear O9 B9 hby9)
              | fail))
          all_goals go_wp2
          all_goals (
            have HG := hid (show Blk (w9.alloc (.cells (bcells (zeros L)).toArray 5)) w9.heap.size (bcells (fillTo f L 0)) 5 from by rw [fillTo_zero]; exact Blk.new w9 _ _)
            have HB5 := hid ((HB9.out).alloc HSz.out (.cells (bcells (zeros L)).toArray 5))
            clear hmk
            go_loopw [14] (fun i wr => ∃ k : Nat, i = .int .i64 (k : Int) ∧ k ≤ L ∧ Blk wr w9.heap.size (bcells (fillTo f L k)) 5 ∧ Below w.heap.size w wr) (fun i _ => L - (RowKit.intOf i).toNat)
            case atStart => exact ⟨0, rfl, Nat.zero_le _, HG.out, HB5.out⟩
            case round =>
              clear HG HB5
              obtain ⟨k, rfl, hk, hG, hBl⟩ := hrel
              have HG := hid hG
              have HBl := hid hBl
              have gf := hG.frozen k
              clear hG hBl
              have hLi : (L : Int) ≤ 3072 := by have := HLb.out; omega
              by_cases hx : k < L
              · have gc : wr.cell? ⟨w9.heap.size, k, none⟩ = some (.int .u8 ((fillTo f L k)[k]'(by rw [fillTo_len hk]; exact hx)).toNat) := (HG.out.cell k).trans (bcells_at _)
                generalize (fillTo f L k)[k]'(by rw [fillTo_len hk]; exact hx) = old at gc
                go_wp2
                go_roundw
                case rel =>
                  refine ⟨k + 1, by go_num, by omega, ?_, HBl.out.setCell HSz.out _⟩
                  have q := HG.out.set (i := k) (.int .u8 (f.toNat : Int))
                  rw [bcells_set, fillTo_next hx] at q
                  exact q
                case measure => simp [RowKit.intOf]; omega
              · obtain rfl : k = L := by omega
                have HGf : Hid (Blk wr w9.heap.size (bcells (fills f k)) 5) := by have := HG.out; rwa [fillTo_all] at this
                have HL2 := hid (HLo.out wr _ HGf.out)
                clear HG gf
                go_wp2_with (first
                  | (go_at_call 25; go_loud ((with_reducible refine HL2.out.mono ?_); rintro e w6 ⟨rfl, P6, B6⟩; have HP6 := hid P6; have HB6 := hid B6; have HBB6 := hid (HBl.out.trans (B6.mono HBl.out.size)); have HG6 := hid (HGf.out.below B6 HGf.out.lt); clear P6 B6))
                  | fail)
                have cv : (convert 30 9 (.slice (some ⟨w9.heap.size, 0, none⟩) k k)).run Try.prog w6 = .ok (.string ⟨(fills f k).toArray⟩) w6 := by
                  have := conv_byts k HG6.out.byts
                  rwa [HFl.out] at this
                have cvd : Hid ((convert 30 9 (.slice (some ⟨w9.heap.size, 0, none⟩) k k)).run Try.prog w6.drew = .ok (.string ⟨(fills f k).toArray⟩) w6.drew) := by
                  have := conv_byts (w := w6.drew) k (show Byts w6.drew (some ⟨w9.heap.size, 0, none⟩) (fills f k) from HG6.out.byts)
                  rwa [HFl.out] at this
                have HPg := hid (HPa.out w6.drew _ _ (HP6.out.below (Below.refl _ _).drew))
                have HIg := hid (HIm.out w6.drew _ _ (HP6.out.below (Below.refl _ _).drew))
                have HCv : Hid (∀ w7 : World, Below w6.heap.size w6 w7 → (convert 30 9 (.slice (some ⟨w9.heap.size, 0, none⟩) k k)).run Try.prog w7 = .ok (.string ⟨(fills f k).toArray⟩) w7) := fun w7 B => by
                  have := conv_byts (w := w7) k (HG6.out.below B HG6.out.lt).byts
                  rwa [HFl.out] at this
                clear cv
                go_region_held_law (fun w' => (convert 30 9 (.slice (some ⟨w9.heap.size, 0, none⟩) k k)).run Try.prog w' = .ok (.string ⟨(fills f k).toArray⟩) w') (first | exact cvd.out | exact HK7.out)
                  ((first
                    | (go_at_call 16; (with_reducible refine HPg.out.mono ?_); rintro e w7 ⟨rfl, hw7⟩; subst hw7)
                    | (go_at_call 22; (with_reducible refine HIg.out.mono ?_); rintro e w7 ⟨v7, rfl, O7, B7⟩; obtain ⟨pi, ci, hv7, hby7, _⟩ := O7.byts; subst hv7; have v1 := conv_byts ci hby7; have HK7 := hid (HCv.out w7 ((Below.refl _ _).drew.trans B7)); have HB7 := hid (HBB6.out.trans (((Below.refl _ _).drew.trans B7).mono HBB6.out.size)); clear O7 B7 hby7)
                    | fail))
                all_goals go_wp2
                all_goals go_ret
                all_goals exact ⟨rfl, HB7.out⟩)
    · have HLd : Hid (∀ (w3 : World) (pp : Option Addr) (cc : Nat), Calls Try.prog 25 #[.slice pp l.length cc] w3 fun e w' => e = .returned (.tuple #[.pointer none, .int .i64 2]) ∧ w' = w3) := fun w3 pp cc => load_bad l pp cc w3 HLl.out (by omega)
      have HRd : Hid (∀ w3 : World, Calls Try.prog 26 #[.slice (some ⟨g, off, none⟩) l.length c] w3 fun e w' => e = .returned (.tuple #[.pointer none, .int .i64 2]) ∧ w' = w3) := fun w3 => rload_bad l _ c w3 HLl.out (by omega)
      clear hok hpos hem
      go_enter Try.func4, Try.ntmps4
      go_wp2_with (first
        | (go_at_call 24; (with_reducible refine HWk.out.mono ?_); rintro e w1 ⟨rfl, B1⟩; have HB1 := hid B1; have HX1 := hid ((HBy.out.kept (fun k hk => B1.block k hk)).alloc (.cells #[] 5)); have hs1 := B1.size; clear B1 HWk)
        | (at_builtin; go_loud (refine appBlk w1.heap.size _ _ _ [] l rfl rfl rfl _ _ _ _ rfl ?hn ?hO ?hX ?hm ?hl ?hb ?_; (case hn => rfl); (case hO => exact own_new w1); (case hX => exact HX1.out); (case hm => exact HPos.out); (case hl => have := HLl.out; simp; omega); (case hb => simp); intro v' w2 O2 G2 A2; have HB2 := hid ((below_own ((Below.refl w1.heap.size w1).alloc (Nat.le_refl _) (.cells #[] 5)) G2 (by simp) (fun k hk => (World.ownsRow.lt (own_new w1) k hk).1))); rw [List.nil_append] at O2; obtain ⟨pq, cq, hvq, _⟩ := O2.byts; subst hvq; clear O2 G2 A2; try go_frame))
        | (go_at_call 25; go_loud ((with_reducible refine (HLd.out _ _ _).mono ?_); rintro e w3 ⟨rfl, hw3⟩; subst hw3; clear HLd))
        | (go_at_call 26; go_loud ((with_reducible refine (HRd.out _).mono ?_); rintro e w4 ⟨rfl, hw4⟩; subst hw4; clear HRd))
        | fail)
      have HSz := hid (Nat.le_trans hs1 HB2.out.size)
      have HG := hid (show Blk (w4.alloc (.cells (bcells (zeros L)).toArray 5)) w4.heap.size (bcells (fillTo f L 0)) 5 from by rw [fillTo_zero]; exact Blk.new w4 _ _)
      have HB5 := hid ((HB1.out.trans (HB2.out.mono hs1)).alloc HSz.out (.cells (bcells (zeros L)).toArray 5))
      clear hmk
      go_loopw [14] (fun i wr => ∃ k : Nat, i = .int .i64 (k : Int) ∧ k ≤ L ∧ Blk wr w4.heap.size (bcells (fillTo f L k)) 5 ∧ Below w.heap.size w wr) (fun i _ => L - (RowKit.intOf i).toNat)
      case atStart => exact ⟨0, rfl, Nat.zero_le _, HG.out, HB5.out⟩
      case round =>
        clear HG HB5
        obtain ⟨k, rfl, hk, hG, hBl⟩ := hrel
        have HG := hid hG
        have HBl := hid hBl
        have gf := hG.frozen k
        clear hG hBl
        have hLi : (L : Int) ≤ 3072 := by have := HLb.out; omega
        by_cases hx : k < L
        · have gc : wr.cell? ⟨w4.heap.size, k, none⟩ = some (.int .u8 ((fillTo f L k)[k]'(by rw [fillTo_len hk]; exact hx)).toNat) := (HG.out.cell k).trans (bcells_at _)
          generalize (fillTo f L k)[k]'(by rw [fillTo_len hk]; exact hx) = old at gc
          go_wp2
          go_roundw
          case rel =>
            refine ⟨k + 1, by go_num, by omega, ?_, HBl.out.setCell HSz.out _⟩
            have q := HG.out.set (i := k) (.int .u8 (f.toNat : Int))
            rw [bcells_set, fillTo_next hx] at q
            exact q
          case measure => simp [RowKit.intOf]; omega
        · obtain rfl : k = L := by omega
          have HGf : Hid (Blk wr w4.heap.size (bcells (fills f k)) 5) := by have := HG.out; rwa [fillTo_all] at this
          have HL2 := hid (HLo.out wr _ HGf.out)
          clear HG gf
          go_wp2_with (first
            | (go_at_call 25; go_loud ((with_reducible refine HL2.out.mono ?_); rintro e w6 ⟨rfl, P6, B6⟩; have HP6 := hid P6; have HB6 := hid B6; have HBB6 := hid (HBl.out.trans (B6.mono HBl.out.size)); have HG6 := hid (HGf.out.below B6 HGf.out.lt); clear P6 B6))
            | fail)
          have cv : (convert 30 9 (.slice (some ⟨w4.heap.size, 0, none⟩) k k)).run Try.prog w6 = .ok (.string ⟨(fills f k).toArray⟩) w6 := by
            have := conv_byts k HG6.out.byts
            rwa [HFl.out] at this
          have cvd : Hid ((convert 30 9 (.slice (some ⟨w4.heap.size, 0, none⟩) k k)).run Try.prog w6.drew = .ok (.string ⟨(fills f k).toArray⟩) w6.drew) := by
            have := conv_byts (w := w6.drew) k (show Byts w6.drew (some ⟨w4.heap.size, 0, none⟩) (fills f k) from HG6.out.byts)
            rwa [HFl.out] at this
          have HPg := hid (HPa.out w6.drew _ _ (HP6.out.below (Below.refl _ _).drew))
          have HIg := hid (HIm.out w6.drew _ _ (HP6.out.below (Below.refl _ _).drew))
          have HCv : Hid (∀ w7 : World, Below w6.heap.size w6 w7 → (convert 30 9 (.slice (some ⟨w4.heap.size, 0, none⟩) k k)).run Try.prog w7 = .ok (.string ⟨(fills f k).toArray⟩) w7) := fun w7 B => by
            have := conv_byts (w := w7) k (HG6.out.below B HG6.out.lt).byts
            rwa [HFl.out] at this
          clear cv
          go_region_held_law (fun w' => (convert 30 9 (.slice (some ⟨w4.heap.size, 0, none⟩) k k)).run Try.prog w' = .ok (.string ⟨(fills f k).toArray⟩) w') (first | exact cvd.out | exact HK7.out)
            ((first
              | (go_at_call 16; (with_reducible refine HPg.out.mono ?_); rintro e w7 ⟨rfl, hw7⟩; subst hw7)
              | (go_at_call 22; (with_reducible refine HIg.out.mono ?_); rintro e w7 ⟨v7, rfl, O7, B7⟩; obtain ⟨pi, ci, hv7, hby7, _⟩ := O7.byts; subst hv7; have v1 := conv_byts ci hby7; have HK7 := hid (HCv.out w7 ((Below.refl _ _).drew.trans B7)); have HB7 := hid (HBB6.out.trans (((Below.refl _ _).drew.trans B7).mono HBB6.out.size)); clear O7 B7 hby7)
              | fail))
          all_goals go_wp2
          all_goals go_ret
          all_goals exact ⟨rfl, HB7.out⟩
end Go.Proofs.Ytfgcjcffplglhaa
