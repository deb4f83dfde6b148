/- What the document's Encode does with a right leaf. Conditions: the node lies within the reach. -/
import Derived.Test.YtilmlegkkgiahaaNdGrow
namespace Go.Proofs.Ytilmlegkkgiahaa
open Go.RowKit Go.Lib
set_option linter.unusedVariables false
set_option maxRecDepth 20000

theorem own_old {w : World} {base b : Nat} {v : Value} {l : List UInt8} (O : OwnB w base v l) (hb : b ≤ base) : ∀ k, k < b → v.ownBlock ≠ some k := fun k hk e => by have := (O.lt k e).1; omega
theorem rs_val {W w : World} {v0 v kv x : Value} {base : Nat} {key l m : List UInt8} (R : RS W v0 base kv key w v l) (X : BV W (fun k => v0.ownBlock ≠ some k) x m) : BV w (fun k => v.ownBlock ≠ some k) x m := by
  have h1 : BV W (fun k => v0.ownBlock ≠ some k ∧ v.ownBlock ≠ some k) x m := X.mono (fun k hk hF => ⟨hF, R.pst.own k hk hF⟩)
  exact (h1.kp (fun k hk hF => R.pst.block k hk (Nat.ne_of_lt hk) hF.1)).mono (fun k _ hF => hF.2)
set_option maxHeartbeats 8000000 in
theorem rencode_leaf {F : Nat → Prop} (pc pk pd : Option Addr) (cc ck cd Lk Ld : Nat) (l : List Cl) (n : Nd) (w : World) (hC : Cls w F pc l) (hok : l.all Cl.ok = true) (hl : 3 + lenCells l ≤ 508)
    (A : ∀ w', Below w.heap.size w w' → Calls Try.prog 15 #[.agg #[.bool true, .slice pc l.length cc, .slice pk Lk ck, .slice pd Ld cd]] w' fun e w2 => e = .returned (.int .i64 0) ∧ Below w'.heap.size w' w2) :
    Calls Try.prog 11 #[.agg #[.bool true, .slice pc l.length cc, .slice pk Lk ck, .slice pd Ld cd]] w fun e w' => Below w.heap.size w w' ∧ ∃ v, e = .returned (.tuple #[v, .int .i64 0]) ∧ OwnB w' w.heap.size v (padTo 508 (1 :: (le2 l.length ++ encCells l))) := by
  have HB0 := hid (alloc_below w (.cells #[.bool true, .slice pc l.length cc, .slice pk Lk ck, .slice pd Ld cd] 26))
  have HA := hid (A _ HB0.out)
  have H := hid hC.old
  have HOK := hid hok
  have hn3 := lenCells_ge l
  have hn : l.length < 65536 := by omega
  have HX : Hid (∀ w', Below (w.alloc (.cells #[.bool true, .slice pc l.length cc, .slice pk Lk ck, .slice pd Ld cd] 26)).heap.size (w.alloc (.cells #[.bool true, .slice pc l.length cc, .slice pk Lk ck, .slice pd Ld cd] 26)) w' → w'.cell? ⟨w.heap.size, 0, none⟩ = some (.bool true) ∧ w'.cell? ⟨w.heap.size, 1, none⟩ = some (.slice pc l.length cc)) := fun w' b => ⟨(box4 b).1, (box4 b).2.1⟩
  have HW0 : Hid ((w.alloc (.cells #[.bool true, .slice pc l.length cc, .slice pk Lk ck, .slice pd Ld cd] 26)).heap.size = w.heap.size + 1) := size1 _ _
  clear A hC hok
  go_enter Try.func11, Try.ntmps11
  have HLa : Hid ([(1 : UInt8)].length + (le2 l.length).length ≤ 1000000) := by show _ ≤ _; simp [le2_len]
  have HL1 : Hid (∀ w3 : World, Below (w.alloc (.cells #[.bool true, .slice pc l.length cc, .slice pk Lk ck, .slice pd Ld cd] 26)).heap.size (w.alloc (.cells #[.bool true, .slice pc l.length cc, .slice pk Lk ck, .slice pd Ld cd] 26)) w3 → RS (w3.alloc (.cells #[.int .u8 1] 5)) (.slice (some ⟨w3.heap.size, 0, none⟩) 1 1) (w.alloc (.cells #[.bool true, .slice pc l.length cc, .slice pk Lk ck, .slice pd Ld cd] 26)).heap.size (.slice none 0 0) [] (w3.alloc (.cells #[.int .u8 1] 5)) (.slice (some ⟨w3.heap.size, 0, none⟩) 1 1) [1]) := fun w3 b => RS.start (own_lits w3 (w.alloc (.cells #[.bool true, .slice pc l.length cc, .slice pk Lk ck, .slice pd Ld cd] 26)).heap.size b.size [1] _ (by simp [bcells]) (by unfold maxLen; simp)) (BV.nil _ _) (Nat.le_trans b.size (by simp))
  go_wp2_with (first
    | (go_at_call 15; with_reducible refine HA.out.mono ?_; rintro e w3 ⟨rfl, b3⟩; obtain ⟨x0, x1⟩ := HX.out w3 b3; have hlt3 : w.heap.size < w3.heap.size := cell_lt x0; have R3 := HL1.out w3 b3; have HB3 := hid b3; clear b3)
    | (go_at_call 28; with_reducible refine (RS.two R3 l.length hn).mono ?_; rintro e w4 ⟨vt, rfl, R4, T4, _⟩; clear R3)
    | (at_builtin; refine RS.plain R4 T4 rfl rfl rfl rfl HLa.out ?_; intro v5 w5 R5; obtain ⟨p5, c5, hv5, _⟩ := R5.own.form; subst hv5; clear R4 T4)
    | fail)
  generalize hW : w.alloc _ = W at *
  clear hW
  have HO5 := hid R5.own
  have HB5 : Hid (Below W.heap.size W w5) := (HB3.out.alloc HB3.out.size _).trans (R5.under (Nat.le_trans HB3.out.size (by simp)) (fun k hk => by simp only [Value.ownBlock, Option.some.injEq] at hk; have := HB3.out.size; omega))
  clear R5 HL1 x0 x1 HA
  go_loopw [7, 8] (fun b i wr => ∃ (k : Nat) (p : Option Addr) (c : Nat), b = .slice p (1 :: (le2 l.length ++ encCells (l.take k))).length c ∧ i = .int .i64 (k : Int) ∧ k ≤ l.length ∧ OwnB wr W.heap.size (.slice p (1 :: (le2 l.length ++ encCells (l.take k))).length c) (1 :: (le2 l.length ++ encCells (l.take k))) ∧ Below W.heap.size W wr) (fun _ i _ => l.length - (RowKit.intOf i).toNat)
  case atStart => exact ⟨0, p5, c5, by simp [encCells], rfl, Nat.zero_le _, by simpa [encCells] using HO5.out, HB5.out⟩
  case round =>
    clear HO5 HB5 HB3
    obtain ⟨k, p0, c0, rfl, rfl, hk, hO, hB⟩ := hrel
    have HO := hid hO
    have HB := hid hB
    clear hO hB
    obtain ⟨x0, x1⟩ := HX.out wr HB.out
    have HBw : Hid (Below w.heap.size w wr) := HB0.out.trans (HB.out.mono HB0.out.size)
    by_cases hx : k < l.length
    · obtain ⟨gc, off, p1, c1, p2, c2, rfl, c10, c11, c12, c13, b1, b2, _⟩ := (H.out.kp (Kp.of_below HBw.out)).get hx
      obtain ⟨hb1, _⟩ := b1.len
      obtain ⟨hb2, _⟩ := b2.len
      have hck : l[k].ok = true := List.all_eq_true.1 HOK.out _ (List.getElem_mem hx)
      obtain ⟨hk1, hk2⟩ := Cl.ok_parts hck
      have hsz : 0 ≤ l[k].size ∧ l[k].size ≤ 2048 := by rcases hk2 with ⟨_, h1, h2⟩ | ⟨_, _, _, h1, h2⟩ <;> omega
      obtain ⟨N, hN⟩ : ∃ N : Nat, l[k].size = (N : Int) := ⟨l[k].size.toNat, by omega⟩
      have hlen : (1 :: (le2 l.length ++ encCells (l.take k))).length + l[k].len ≤ 508 := by
        have e1 := lenCells_succ hx
        have e2 := lenCells_take l (k + 1)
        simp only [List.length_cons, List.length_append, le2_len, encCells_len]
        omega
      have hE := hid (encCells_succ hx)
      generalize hpre : 1 :: (le2 l.length ++ encCells (l.take k)) = pre at *
      have HN : Hid (N < 65536) := by show _ < _; omega
      have hwr : IntKind.u8.wrap (l[k].key.length : Int) = (l[k].key.length : Int) := by rw [IntKind.wrap_u8]; omega
      have HC : Hid ((#[.int .u8 (l[k].key.length : Int)] : Array Value).toList = bcells [UInt8.ofNat l[k].key.length]) := by
        have e1 : (((UInt8.ofNat l[k].key.length).toNat : Nat) : Int) = (l[k].key.length : Int) := by simp <;> omega
        show _ = _
        simp only [bcells, List.map_cons, List.map_nil, e1]
      have HCm : Hid ([UInt8.ofNat l[k].key.length].length ≤ 1000) := by show _ ≤ _; simp
      rw [hN] at c13
      have HOl := hid (own_old HO.out (Nat.le_of_eq rfl))
      have HOw : Hid (∀ j, j < w.heap.size → (Value.slice p0 pre.length c0).ownBlock ≠ some j) := fun j hj => own_old HO.out (show w.heap.size ≤ W.heap.size from HB0.out.size) j hj
      have HOc : Hid ((Value.slice p0 pre.length c0).ownBlock ≠ some wr.heap.size) := fun e => by have := (HO.out.lt _ e).2; omega
      have HBc := hid (alloc_below wr (.cells #[.slice p1 l[k].key.length c1, .slice p2 l[k].val.length c2, .int .i64 l[k].over, .int .i64 (N : Int)] 59))
      have R := RS.start (HO.out.bel HBc.out) ((b1.below HBc.out).mono (fun j _ hj => HOw.out j hj)) (Nat.le_trans HB.out.size HBc.out.size)
      have HV := hid ((b2.below HBc.out).mono (fun j _ hj => HOw.out j hj))
      have HXc := hid (Bx.new wr (.slice p1 l[k].key.length c1) (.slice p2 l[k].val.length c2) (.int .i64 l[k].over) (.int .i64 (N : Int)) 59)
      have HL1 : Hid (pre.length + [UInt8.ofNat l[k].key.length].length ≤ 1000000) := by show _ ≤ _; simp; omega
      have HL2 : Hid ((pre ++ [UInt8.ofNat l[k].key.length]).length + l[k].key.length ≤ 1000000) := by show _ ≤ _; simp; omega
      have HL3 : Hid ((pre ++ [UInt8.ofNat l[k].key.length] ++ l[k].key).length + (le2 N).length ≤ 1000000) := by show _ ≤ _; simp [le2_len]; omega
      clear b1 b2
      by_cases h0 : l[k].over = 0
      · have hfin : Hid (pre ++ [UInt8.ofNat l[k].key.length] ++ l[k].key ++ le2 N ++ l[k].val = 1 :: (le2 l.length ++ encCells (l.take (k + 1)))) := by
          show _ = _
          rw [hE.out, ← hpre]
          unfold encCl
          rw [if_pos h0, hN]
          simp [List.append_assoc]
        have HL4 : Hid ((pre ++ [UInt8.ofNat l[k].key.length] ++ l[k].key ++ le2 N).length + l[k].val.length ≤ 1000000) := by
          show _ ≤ _
          rw [Cl.len_in h0] at hlen
          simp [le2_len]
          omega
        rw [h0] at c12 HBc HXc R HV
        clear hE hpre hN hck hk2 hlen
        go_wp2
        generalize hWc : wr.alloc _ = Wc at *
        obtain ⟨z0, z1, z2, z3⟩ := HXc.out.get
        have HSs : Hid (∀ wx vx lx, RS Wc (.slice p0 pre.length c0) W.heap.size (.slice p1 l[k].key.length c1) l[k].key wx vx lx → wx.cell? ⟨wr.heap.size, 0, none⟩ = some (.slice p1 l[k].key.length c1) ∧ wx.cell? ⟨wr.heap.size, 3, none⟩ = some (.int .i64 (N : Int))) := fun wx vx lx r => ⟨r.cell z0 HOc.out, r.cell z3 HOc.out⟩
        have HSz : Hid (∀ wx vx lx, RS Wc (.slice p0 pre.length c0) W.heap.size (.slice p1 l[k].key.length c1) l[k].key wx vx lx → wx.cell? ⟨wr.heap.size, 1, none⟩ = some (.slice p2 l[k].val.length c2) ∧ wx.cell? ⟨wr.heap.size, 2, none⟩ = some (.int .i64 0) ∧ BV wx (fun j => vx.ownBlock ≠ some j) (.slice p2 l[k].val.length c2) l[k].val ∧ Below W.heap.size W wx) := fun wx vx lx r => ⟨r.cell z1 HOc.out, r.cell z2 HOc.out, rs_val r HV.out, (HB.out.trans (HBc.out.mono HB.out.size)).trans (r.under (Nat.le_trans HB.out.size HBc.out.size) (fun j e => (HO.out.lt j e).1))⟩
        clear z0 z1 z2 z3 HXc
        go_region_held_law (fun w' => w'.cell? ⟨wr.heap.size, 0, none⟩ = some (.slice p1 l[k].key.length c1) ∧ w'.cell? ⟨wr.heap.size, 3, none⟩ = some (.int .i64 (N : Int))) (with_reducible first | exact HSs.out _ _ _ R | exact HSs.out _ _ _ R.drw | exact HSs.out _ _ _ (R.alc _) | exact HSs.out _ _ _ (R.drw.alc _) | exact HSs.out _ _ _ (R.alc _).drw)
          (first
            | (go_at_call 28; first | (with_reducible refine (RS.two R N HN.out).mono ?_; rintro e wn ⟨vt, rfl, R', T, _⟩; replace R := R'; clear R') | (with_reducible refine (RS.two R.drw N HN.out).mono ?_; rintro e wn ⟨vt, rfl, R', T, _⟩; replace R := R'; clear R') | (with_reducible refine (RS.twoL (R.alc _) N HN.out (RS.lit R [UInt8.ofNat l[k].key.length] _ HC.out HCm.out 1 _ rfl rfl)).mono ?_; rintro e wn ⟨vt, rfl, R', T, LT⟩; replace R := R'; clear R') | (with_reducible refine (RS.twoL (R.drw.alc _) N HN.out (RS.lit R.drw [UInt8.ofNat l[k].key.length] _ HC.out HCm.out 1 _ rfl rfl)).mono ?_; rintro e wn ⟨vt, rfl, R', T, LT⟩; replace R := R'; clear R') | (with_reducible refine (RS.twoL (R.alc _).drw N HN.out ((RS.lit R [UInt8.ofNat l[k].key.length] _ HC.out HCm.out 1 _ rfl rfl).below (below_drew _))).mono ?_; rintro e wn ⟨vt, rfl, R', T, LT⟩; replace R := R'; clear R'))
            | (first | (refine RS.step R LT rfl rfl rfl rfl HL1.out ?_; intro va wa R' P'; replace R := R'; clear R'; (try replace T := P' _ _ T); clear P'; clear LT) | (refine RS.step (R.alc _) (RS.lit R [UInt8.ofNat l[k].key.length] _ HC.out HCm.out 1 _ rfl rfl) rfl rfl rfl rfl HL1.out ?_; intro va wa R' P'; replace R := R'; clear R'; (try replace T := P' _ _ T); clear P') | (refine RS.step (R.drw.alc _) (RS.lit R.drw [UInt8.ofNat l[k].key.length] _ HC.out HCm.out 1 _ rfl rfl) rfl rfl rfl rfl HL1.out ?_; intro va wa R' P'; replace R := R'; clear R'; (try replace T := P' _ _ T); clear P') | (refine RS.step (R.alc _).drw ((RS.lit R [UInt8.ofNat l[k].key.length] _ HC.out HCm.out 1 _ rfl rfl).below (below_drew _)) rfl rfl rfl rfl HL1.out ?_; intro va wa R' P'; replace R := R'; clear R'; (try replace T := P' _ _ T); clear P') | (refine RS.step R R.key rfl rfl rfl rfl HL2.out ?_; intro va wa R' P'; replace R := R'; clear R'; (try replace T := P' _ _ T); clear P') | (refine RS.step R T rfl rfl rfl rfl HL3.out ?_; intro va wa R' P'; replace R := R'; clear R' P' T)))
        all_goals
          generalize hM : pre ++ [UInt8.ofNat l[k].key.length] ++ l[k].key ++ le2 N = M at *
          clear hM
          obtain ⟨y1, y2, V5, B5⟩ := HSz.out _ _ _ R
          have HBv := hid B5
          clear B5
          obtain ⟨pa, ca, hva, _⟩ := R.own.form
          subst hva
          go_wp2_with (first
            | (at_builtin; refine RS.plain R V5 rfl rfl rfl rfl HL4.out ?_; intro v6 w6 R6; obtain ⟨p6, c6, hv6⟩ := R6.own.formN (M.length + l[k].val.length) List.length_append; subst hv6; have HR6 := hid R6; clear R R6)
            | fail)
          have R6 := HR6.out
          have B6 := (HB.out.trans (HBc.out.mono HB.out.size)).trans (R6.under (Nat.le_trans HB.out.size HBc.out.size) (fun j e => (HO.out.lt j e).1))
          go_roundw
          case rel => exact ⟨k + 1, p6, c6, by rw [← hfin.out, List.length_append], by go_num, by omega, by have h := R6.own; rw [← hfin.out, List.length_append]; exact h, B6⟩
          case measure => simp [RowKit.intOf]; omega
      · have h0b : (l[k].over == 0) = false := beq_eq_false_iff_ne.2 h0
        have hov : 2 ≤ l[k].over ∧ l[k].over < 4096 := by rcases hk2 with ⟨h1, _⟩ | ⟨h1, h2, _⟩ <;> omega
        obtain ⟨O, hO⟩ : ∃ O : Nat, l[k].over = (O : Int) := ⟨l[k].over.toNat, by omega⟩
        have hfin : Hid (pre ++ [UInt8.ofNat l[k].key.length] ++ l[k].key ++ le2 N ++ le2 O = 1 :: (le2 l.length ++ encCells (l.take (k + 1)))) := by
          show _ = _
          rw [hE.out, ← hpre]
          unfold encCl
          rw [if_neg h0, hN, hO]
          simp [List.append_assoc]
        have HL4 : Hid ((pre ++ [UInt8.ofNat l[k].key.length] ++ l[k].key ++ le2 N).length + (le2 O).length ≤ 1000000) := by
          show _ ≤ _
          rw [Cl.len_over h0] at hlen
          simp [le2_len]
          omega
        have HLn' : Hid (∀ M : List UInt8, (M ++ le2 O).length = M.length + 2) := fun M => by rw [List.length_append, le2_len]
        have HN2 : Hid (O < 65536) := by show _ < _; omega
        rw [hO] at c12 HBc HXc R HV h0b h0
        clear hE hpre hN hck hk2 hlen hov hO
        go_wp2
        generalize hWc : wr.alloc _ = Wc at *
        obtain ⟨z0, z1, z2, z3⟩ := HXc.out.get
        have HSs : Hid (∀ wx vx lx, RS Wc (.slice p0 pre.length c0) W.heap.size (.slice p1 l[k].key.length c1) l[k].key wx vx lx → wx.cell? ⟨wr.heap.size, 0, none⟩ = some (.slice p1 l[k].key.length c1) ∧ wx.cell? ⟨wr.heap.size, 3, none⟩ = some (.int .i64 (N : Int))) := fun wx vx lx r => ⟨r.cell z0 HOc.out, r.cell z3 HOc.out⟩
        have HSz : Hid (∀ wx vx lx, RS Wc (.slice p0 pre.length c0) W.heap.size (.slice p1 l[k].key.length c1) l[k].key wx vx lx → wx.cell? ⟨wr.heap.size, 2, none⟩ = some (.int .i64 (O : Int))) := fun wx vx lx r => r.cell z2 HOc.out
        clear z0 z1 z2 z3 HXc HV
        go_region_held_law (fun w' => w'.cell? ⟨wr.heap.size, 0, none⟩ = some (.slice p1 l[k].key.length c1) ∧ w'.cell? ⟨wr.heap.size, 3, none⟩ = some (.int .i64 (N : Int))) (with_reducible first | exact HSs.out _ _ _ R | exact HSs.out _ _ _ R.drw | exact HSs.out _ _ _ (R.alc _) | exact HSs.out _ _ _ (R.drw.alc _) | exact HSs.out _ _ _ (R.alc _).drw)
          (first
            | (go_at_call 28; first | (with_reducible refine (RS.two R N HN.out).mono ?_; rintro e wn ⟨vt, rfl, R', T, _⟩; replace R := R'; clear R') | (with_reducible refine (RS.two R.drw N HN.out).mono ?_; rintro e wn ⟨vt, rfl, R', T, _⟩; replace R := R'; clear R') | (with_reducible refine (RS.twoL (R.alc _) N HN.out (RS.lit R [UInt8.ofNat l[k].key.length] _ HC.out HCm.out 1 _ rfl rfl)).mono ?_; rintro e wn ⟨vt, rfl, R', T, LT⟩; replace R := R'; clear R') | (with_reducible refine (RS.twoL (R.drw.alc _) N HN.out (RS.lit R.drw [UInt8.ofNat l[k].key.length] _ HC.out HCm.out 1 _ rfl rfl)).mono ?_; rintro e wn ⟨vt, rfl, R', T, LT⟩; replace R := R'; clear R') | (with_reducible refine (RS.twoL (R.alc _).drw N HN.out ((RS.lit R [UInt8.ofNat l[k].key.length] _ HC.out HCm.out 1 _ rfl rfl).below (below_drew _))).mono ?_; rintro e wn ⟨vt, rfl, R', T, LT⟩; replace R := R'; clear R'))
            | (first | (refine RS.step R LT rfl rfl rfl rfl HL1.out ?_; intro va wa R' P'; replace R := R'; clear R'; (try replace T := P' _ _ T); clear P'; clear LT) | (refine RS.step (R.alc _) (RS.lit R [UInt8.ofNat l[k].key.length] _ HC.out HCm.out 1 _ rfl rfl) rfl rfl rfl rfl HL1.out ?_; intro va wa R' P'; replace R := R'; clear R'; (try replace T := P' _ _ T); clear P') | (refine RS.step (R.drw.alc _) (RS.lit R.drw [UInt8.ofNat l[k].key.length] _ HC.out HCm.out 1 _ rfl rfl) rfl rfl rfl rfl HL1.out ?_; intro va wa R' P'; replace R := R'; clear R'; (try replace T := P' _ _ T); clear P') | (refine RS.step (R.alc _).drw ((RS.lit R [UInt8.ofNat l[k].key.length] _ HC.out HCm.out 1 _ rfl rfl).below (below_drew _)) rfl rfl rfl rfl HL1.out ?_; intro va wa R' P'; replace R := R'; clear R'; (try replace T := P' _ _ T); clear P') | (refine RS.step R R.key rfl rfl rfl rfl HL2.out ?_; intro va wa R' P'; replace R := R'; clear R'; (try replace T := P' _ _ T); clear P') | (refine RS.step R T rfl rfl rfl rfl HL3.out ?_; intro va wa R' P'; replace R := R'; clear R' P' T)))
        all_goals
          generalize hM : pre ++ [UInt8.ofNat l[k].key.length] ++ l[k].key ++ le2 N = M at *
          clear hM
          have y2 := HSz.out _ _ _ R
          obtain ⟨pa, ca, hva, _⟩ := R.own.form
          subst hva
          go_wp2_with (first
            | (go_at_call 28; with_reducible refine (RS.two R O HN2.out).mono ?_; rintro e w5 ⟨vu, rfl, R5, T5, _⟩; clear R)
            | (at_builtin; refine RS.plain R5 T5 rfl rfl rfl rfl HL4.out ?_; intro v6 w6 R6; obtain ⟨p6, c6, hv6⟩ := R6.own.formN (M.length + 2) (HLn'.out M); subst hv6; have HR6 := hid R6; clear R5 T5 R6)
            | fail)
          have R6 := HR6.out
          have B6 := (HB.out.trans (HBc.out.mono HB.out.size)).trans (R6.under (Nat.le_trans HB.out.size HBc.out.size) (fun j e => (HO.out.lt j e).1))
          go_roundw
          case rel => exact ⟨k + 1, p6, c6, by rw [← hfin.out, List.length_append]; rfl, by go_num, by omega, by have h := R6.own; rw [← hfin.out, List.length_append]; exact h, B6⟩
          case measure => simp [RowKit.intOf]; omega
    · obtain rfl : k = l.length := by omega
      have HO2 : Hid (OwnB wr W.heap.size (.slice p0 (1 :: (le2 l.length ++ encCells (l.take l.length))).length c0) (1 :: (le2 l.length ++ encCells l))) := by have := HO.out; rw [List.take_length] at this ⊢; exact this
      have P := hid (pad_any W.heap.size _ _ wr HO2.out (by simp [le2_len, encCells_len]; omega) HB.out.size)
      unfold pdEnd at P
      clear HO HO2
      generalize (1 :: (le2 l.length ++ encCells (l.take l.length))).length = ML at *
      go_wp2_with (first
        | (go_at_call 29; with_reducible refine P.out.mono ?_; rintro e w6 ⟨v6, rfl, O6, B6⟩; have HO6 := hid O6; have HB6 := hid B6; clear O6 B6)
        | fail)
      go_ret2
      exact ⟨HB0.out.trans ((HB.out.trans HB6.out).mono HB0.out.size), _, rfl, own_mono HO6.out HB0.out.size⟩
end Go.Proofs.Ytilmlegkkgiahaa
