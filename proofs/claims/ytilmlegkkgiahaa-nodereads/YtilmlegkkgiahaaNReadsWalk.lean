/- The law NodeReads returns true and writes nothing that was there. Conditions: the bytes lie within the reach. -/
import Derived.Test.YtilmlegkkgiahaaNdRDec
import Derived.Test.YtilmlegkkgiahaaNdROpen
import Derived.Test.YtilmlegkkgiahaaNdLaw
namespace Go.Proofs.Ytilmlegkkgiahaa
open Go.RowKit Go.Lib Go.Sort
set_option linter.unusedVariables false
set_option maxRecDepth 20000

/-- What Decode and Open of the one kind and of the other answer, in one form. -/
def dnUni (n : Nd) (er : Int) (w : World) (e : Ending) (w' : World) : Prop := Below w.heap.size w w' ∧ ∃ p1 c1 p2 c2 p3 c3, e = .returned (.tuple #[.agg #[.bool n.leaf, .slice p1 n.cells.length c1, .slice p2 n.keys.length c2, .slice p3 n.kids.length c3], .int .i64 er]) ∧ NV w' (w.heap.size ≤ ·) (.slice p1 n.cells.length c1) (.slice p2 n.keys.length c2) (.slice p3 n.kids.length c3) n
theorem dnEnd.uni {l : List UInt8} : ∃ (n : Nd) (er : Int), ∀ w e w', dnEnd l w e w' → dnUni n er w e w' := by
  cases hd : decN l with
  | none =>
    refine ⟨Nd.none, 10, ?_⟩
    rintro w e w' ⟨B, n, er, cv, kv, dv, he, N, q⟩
    rw [hd] at q
    rcases q with ⟨q, _⟩ | ⟨_, rfl, rfl⟩
    · cases q
    · obtain ⟨p1, c1, p2, c2, p3, c3, rfl, rfl, rfl⟩ := N.formed
      exact ⟨B, p1, c1, p2, c2, p3, c3, he, N⟩
  | some m =>
    refine ⟨m, 0, ?_⟩
    rintro w e w' ⟨B, n, er, cv, kv, dv, he, N, q⟩
    rw [hd] at q
    rcases q with ⟨q, rfl⟩ | ⟨q, _⟩
    · simp only [Option.some.injEq] at q
      subst q
      obtain ⟨p1, c1, p2, c2, p3, c3, rfl, rfl, rfl⟩ := N.formed
      exact ⟨B, p1, c1, p2, c2, p3, c3, he, N⟩
    · cases q
def opUni (d : List UInt8) (x er : Int) (w : World) (e : Ending) (w' : World) : Prop := Below w.heap.size w w' ∧ ∃ p c, e = .returned (.tuple #[.slice p d.length c, .int .i64 x, .int .i64 er]) ∧ BV w' (w.heap.size ≤ ·) (.slice p d.length c) d
theorem opEnd.uni {l : List UInt8} : ∃ (d : List UInt8) (x er : Int), ∀ w e w', opEnd l w e w' → opUni d x er w e w' := by
  cases hd : opN l with
  | none =>
    refine ⟨[], 0, 10, ?_⟩
    rintro w e w' ⟨B, d, x, er, p, c, he, N, q⟩
    rw [hd] at q
    rcases q with ⟨q, _⟩ | ⟨_, rfl, rfl, rfl⟩
    · cases q
    · exact ⟨B, p, c, he, N⟩
  | some m =>
    refine ⟨m.1, m.2, 0, ?_⟩
    rintro w e w' ⟨B, d, x, er, p, c, he, N, q⟩
    rw [hd] at q
    rcases q with ⟨q, rfl⟩ | ⟨q, _⟩
    · simp only [Option.some.injEq] at q
      subst q
      exact ⟨B, p, c, he, N⟩
    · cases q
theorem OwnB.lt' {w : World} {base : Nat} {v : Value} {l : List UInt8} (o : OwnB w base v l) {j : Nat} (e : v.ownBlock = some j) : base ≤ j ∧ j < w.heap.size := World.ownsRow.lt o j e
set_option maxHeartbeats 8000000 in
theorem nreads_walk {F : Nat → Prop} (v : Value) (l : List UInt8) (w : World) (h : BV w F v l) :
    Calls Try.prog 4 #[v] w fun e w' => e = .returned (.bool true) ∧ Below w.heap.size w w' := by
  have HV := hid h
  have A1 := hid (clone_any v l w h)
  unfold clEnd at A1
  obtain ⟨p, c, rfl⟩ := h.shape
  obtain ⟨hll, _⟩ := h.len
  have HLl : Hid (l.length ≤ 140737488351232) := hll
  obtain ⟨n, er, hdn⟩ := dnEnd.uni (l := l)
  obtain ⟨dd, nx, er2, hop⟩ := opEnd.uni (l := l)
  have D1 := hid (fun w' v' (G : Nat → Prop) (X : BV w' G v' l) => (ndecode_any v' l w' X).mono (fun e w'' q => hdn w' e w'' q))
  have D2 := hid (fun w' (X : BV w' F (.slice p l.length c) l) => (rdecode_any _ l w' X).mono (fun e w'' q => hdn w' e w'' q))
  have O1 := hid (fun w' v' (G : Nat → Prop) (X : BV w' G v' l) => (nopen_any v' l w' X).mono (fun e w'' q => hop w' e w'' q))
  have O2 := hid (fun w' (X : BV w' F (.slice p l.length c) l) => (ropen_any _ l w' X).mono (fun e w'' q => hop w' e w'' q))
  unfold dnUni at D1 D2
  unfold opUni at O1 O2
  have A8 := hid (fun w' cv kv dv (G : Nat → Prop) (N : NV w' G cv kv dv n) => ours_any cv kv dv n w' N)
  unfold itEnd at A8
  have A9 := hid (fun w' cv kv dv cv' kv' dv' (G G' : Nat → Prop) (N : NV w' G cv kv dv n) (M : NV w' G' cv' kv' dv' n) => same_any cv kv dv cv' kv' dv' n n w' N M)
  rw [(sameN_eq n n).2 rfl] at A9
  have he1 : (er != er) = false := by simp
  have he2 : (er2 != er2) = false := by simp
  have he3 : (nx != nx) = false := by simp
  clear h hdn hop hll
  go_enter Try.func4, Try.ntmps4
  go_upto_region 6 with (first
    | (go_at_call 18; with_reducible refine A1.out.mono ?_; rintro e w1 ⟨v1, rfl, o1, b1⟩; obtain ⟨pa, ca, hv1⟩ := o1.formN l.length rfl; subst hv1; have HOl := hid (fun j (e : (Value.slice pa l.length ca).ownBlock = some j) => o1.lt' e); have HO1 := hid o1; have HV1 := hid (HV.out.below b1); have HB1 := hid b1; have D1' := hid (D1.out _ _ _ (o1.bv HLl.out)); clear o1 b1 A1)
    | (go_at_call 19; with_reducible refine D1'.out.mono ?_; rintro e w2 ⟨b2, x1, x4, x2, x5, x3, x6, rfl, N2⟩; have HBx := hid (alloc_below w2 (.cells #[.bool n.leaf, .slice x1 n.cells.length x4, .slice x2 n.keys.length x5, .slice x3 n.kids.length x6] 29)); have HX2 := hid (Bx.new w2 (.bool n.leaf) (.slice x1 n.cells.length x4) (.slice x2 n.keys.length x5) (.slice x3 n.kids.length x6) 29); have HN2 := hid (N2.below HBx.out); have HO2 := hid ((HO1.out.bel b2).bel HBx.out); have HV2 := hid ((HV1.out.below b2).below HBx.out); have HB2 := hid (b2.trans (HBx.out.mono b2.size)); have hxb : w1.heap.size ≤ w2.heap.size := b2.size; have D2' := hid (D2.out _ HV2.out); clear b2 N2 HBx D1' D1)
    | (go_at_call 20; with_reducible refine D2'.out.mono ?_; rintro e w3 ⟨b3, y1, y4, y2, y5, y3, y6, rfl, N3⟩; have HBy := hid (alloc_below w3 (.cells #[.bool n.leaf, .slice y1 n.cells.length y4, .slice y2 n.keys.length y5, .slice y3 n.kids.length y6] 26)); have HY3 := hid (Bx.new w3 (.bool n.leaf) (.slice y1 n.cells.length y4) (.slice y2 n.keys.length y5) (.slice y3 n.kids.length y6) 26); have HM3 := hid ((N3.mono (fun j _ hj => Nat.le_trans HB2.out.size hj)).below HBy.out); have hyb : w1.heap.size ≤ w3.heap.size := Nat.le_trans HB2.out.size b3.size; have HX3 := hid ((HX2.out.below b3).below HBy.out); have HN3 := hid ((HN2.out.below b3).below HBy.out); have HO3 := hid ((HO2.out.bel b3).bel HBy.out); have HV3 := hid ((HV2.out.below b3).below HBy.out); have HB3 := hid (HB2.out.trans ((b3.trans (HBy.out.mono b3.size)).mono HB2.out.size)); have O1' := hid (O1.out _ _ _ (HO3.out.bv HLl.out)); clear b3 N3 HBy D2' D2)
    | (go_at_call 21; with_reducible refine O1'.out.mono ?_; rintro e w4 ⟨b4, p6, c6, rfl, X4⟩; have HP4 := hid (X4.mono (fun j _ hj => Nat.le_trans HB3.out.size hj)); have HY4 := hid (HY3.out.below b4); have HM4 := hid (HM3.out.below b4); have HX4 := hid (HX3.out.below b4); have HN4 := hid (HN3.out.below b4); have HO4 := hid (HO3.out.bel b4); have HB4 := hid (HB3.out.trans (b4.mono HB3.out.size)); have O2' := hid (O2.out _ (HV3.out.below b4)); clear b4 X4 O1' O1)
    | (go_at_call 22; with_reducible refine O2'.out.mono ?_; rintro e w5 ⟨b5, p7, c7, rfl, X5⟩; have HQ5 := hid (X5.mono (fun j _ hj => Nat.le_trans HB4.out.size hj)); have HP5 := hid (HP4.out.below b5); have HY5 := hid (HY4.out.below b5); have HM5 := hid (HM4.out.below b5); have HX5 := hid (HX4.out.below b5); have HN5 := hid (HN4.out.below b5); have HO5 := hid (HO4.out.bel b5); have HB5 := hid (HB4.out.trans (b5.mono HB4.out.size)); clear b5 X5 O2' O2)
    | fail)
  clear HV HV1 HV2 HV3 HO1 HO2 HO3 HO4 HX2 HX3 HX4 HY3 HY4 HN2 HN3 HN4 HM3 HM4 HP4 HB2 HB3 HB4
  generalize w2.heap.size = xb at *
  generalize w3.heap.size = yb at *
  have B0 : Below w5.heap.size w5 w5.drew := (Below.refl _ _).drew
  have HS : Hid (∀ w', Below w5.heap.size w5 w' → (w'.cell? ⟨xb, 0, none⟩ = some (.bool n.leaf) ∧ w'.cell? ⟨xb, 1, none⟩ = some (.slice x1 n.cells.length x4) ∧ w'.cell? ⟨xb, 2, none⟩ = some (.slice x2 n.keys.length x5) ∧ w'.cell? ⟨xb, 3, none⟩ = some (.slice x3 n.kids.length x6)) ∧ (w'.cell? ⟨yb, 0, none⟩ = some (.bool n.leaf) ∧ w'.cell? ⟨yb, 1, none⟩ = some (.slice y1 n.cells.length y4) ∧ w'.cell? ⟨yb, 2, none⟩ = some (.slice y2 n.keys.length y5) ∧ w'.cell? ⟨yb, 3, none⟩ = some (.slice y3 n.kids.length y6)) ∧ (convert 31 9 (.slice p6 dd.length c6)).run Try.prog w' = .ok (.string ⟨dd.toArray⟩) w' ∧ (convert 31 9 (.slice p7 dd.length c7)).run Try.prog w' = .ok (.string ⟨dd.toArray⟩) w') := fun w' B => ⟨(HX5.out.below B).get, (HY5.out.below B).get, (HP5.out.below B).conv, (HQ5.out.below B).conv⟩
  have O1 := hid (A8.out w5.drew _ _ _ _ (HN5.out.below B0))
  have HNn2 := hid (fun w' (B : Below w5.heap.size w5 w') => HM5.out.below B)
  go_region_held_law (fun w' => (w'.cell? ⟨xb, 0, none⟩ = some (.bool n.leaf) ∧ w'.cell? ⟨xb, 1, none⟩ = some (.slice x1 n.cells.length x4) ∧ w'.cell? ⟨xb, 2, none⟩ = some (.slice x2 n.keys.length x5) ∧ w'.cell? ⟨xb, 3, none⟩ = some (.slice x3 n.kids.length x6)) ∧ (w'.cell? ⟨yb, 0, none⟩ = some (.bool n.leaf) ∧ w'.cell? ⟨yb, 1, none⟩ = some (.slice y1 n.cells.length y4) ∧ w'.cell? ⟨yb, 2, none⟩ = some (.slice y2 n.keys.length y5) ∧ w'.cell? ⟨yb, 3, none⟩ = some (.slice y3 n.kids.length y6)) ∧ (convert 31 9 (.slice p6 dd.length c6)).run Try.prog w' = .ok (.string ⟨dd.toArray⟩) w' ∧ (convert 31 9 (.slice p7 dd.length c7)).run Try.prog w' = .ok (.string ⟨dd.toArray⟩) w') (with_reducible first | exact HS.out _ B0 | exact HS.out _ B6 | exact HS.out _ B7)
    (first
      | (go_at_call 17; with_reducible refine O1.out.mono ?_; rintro e w6 ⟨cv6, kv6, dv6, rfl, N6, b6⟩; have B6 := B0.trans (b6.mono B0.size); have O2 := hid (A9.out w6 _ _ _ _ _ _ _ _ N6 (HNn2.out w6 B6)); obtain ⟨q1, r1, q2, r2, q3, r3, hv1, hv2, hv3⟩ := N6.formed; subst hv1 hv2 hv3; clear N6 b6)
      | (go_at_call 16; with_reducible refine O2.out.mono ?_; rintro e w7 ⟨rfl, b7⟩; have B7 := B6.trans (b7.mono B6.size); clear b7)
      | fail)
  have HB7 := hid (HB5.out.trans (B7.mono HB5.out.size))
  have HO7 := hid (HO5.out.bel B7)
  have HX7 := hid (HX5.out.below B7)
  have HY7 := hid (HY5.out.below B7)
  have HN7 := hid (HN5.out.below B7)
  have HM7 := hid (HM5.out.below B7)
  have HP7 := hid (HP5.out.below B7)
  have HQ7 := hid (HQ5.out.below B7)
  have hw1 : w1.heap.size ≤ w7.heap.size := HB7.out.size
  clear HS O1 O2 HNn2 B0 B6 B7 HX5 HY5 HN5 HM5 HP5 HQ5 HO5 HB5
  go_wp2
  generalize hL : l.length = L at *
  have HL := hid hL
  clear hL
  go_loopw [14] (fun i wr => ∃ (k : Nat) (l' : List UInt8), i = .int .i64 (k : Int) ∧ k ≤ L ∧ l'.length = L ∧ OwnB wr w.heap.size (.slice pa L ca) l' ∧ Chg (fun j => (Value.slice pa L ca).ownBlock = some j) w7 wr) (fun i _ => L - (RowKit.intOf i).toNat)
  case atStart => exact ⟨0, l, rfl, Nat.zero_le _, HL.out, HO7.out, Chg.refl _ _⟩
  case round =>
    clear HO7
    obtain ⟨k, l', rfl, hk, hl, hO, hC⟩ := hrel
    have HO := hid hO
    have HC := hid hC
    have HLl' := hid hl
    clear hO hC hl
    have hL5 : L ≤ 140737488351232 := HLl.out
    by_cases hx : k < L
    · have hkl : k < l'.length := by rw [HLl'.out]; exact hx
      obtain ⟨g, cap, hv, hg, _, hc, hset⟩ := HO.out.parts (fun e => by rw [e] at hkl; simp at hkl)
      simp only [Value.slice.injEq] at hv
      obtain ⟨rfl, hvl, rfl⟩ := hv
      clear hvl
      obtain ⟨c0, f0⟩ := hc k hkl
      have hy := UInt8.toNat_lt l'[k]
      have HSet : Hid (∀ z : Int, z = ((l'[k].toNat : Int) + 1) % 256 → OwnB (wr.setCell ⟨g, k, none⟩ (.int .u8 z)) w.heap.size (.slice (some ⟨g, 0, none⟩) L ca) (l'.set k (UInt8.ofNat ((l'[k].toNat + 1) % 256)))) := fun z hz => by
        have e : (((UInt8.ofNat ((l'[k].toNat + 1) % 256)).toNat : Nat) : Int) = z := by rw [hz]; simp
        rw [← e]
        exact hset k _
      clear hc hset
      generalize l'[k].toNat = y at *
      go_wp2
      go_roundw
      case rel => exact ⟨k + 1, _, by go_num, by omega, by rw [List.length_set]; exact HLl'.out, HSet.out _ (by first | rfl | omega), HC.out.setCell (p := ⟨g, k, none⟩) (Or.inl rfl) _⟩
      case measure => simp [RowKit.intOf]; omega
    · obtain rfl : k = L := by omega
      have HKp : Hid (Kp (w1.heap.size ≤ ·) w7 wr) := Kp.of_chg HC.out (fun j hj e => by have h1 : w1.heap.size ≤ j := hj; have := (HOl.out j e).2; omega)
      have HX8 := hid (HX7.out.chg HC.out (fun e => by have := (HOl.out xb e).2; omega))
      have HY8 := hid (HY7.out.chg HC.out (fun e => by have := (HOl.out yb e).2; omega))
      have HN8 := hid (HN7.out.kp HKp.out)
      have HM8 := hid (HM7.out.kp HKp.out)
      have HP8 := hid (HP7.out.kp HKp.out)
      have HQ8 := hid (HQ7.out.kp HKp.out)
      have HB8 : Hid (Below w.heap.size w wr) := (HB1.out.trans (HB7.out.mono HB1.out.size)).trans (HC.out.below (fun j e => (HOl.out j e).1) (Nat.le_trans HB1.out.size hw1))
      have B0 : Below wr.heap.size wr wr.drew := (Below.refl _ _).drew
      have HS : Hid (∀ w', Below wr.heap.size wr w' → (w'.cell? ⟨xb, 0, none⟩ = some (.bool n.leaf) ∧ w'.cell? ⟨xb, 1, none⟩ = some (.slice x1 n.cells.length x4) ∧ w'.cell? ⟨xb, 2, none⟩ = some (.slice x2 n.keys.length x5) ∧ w'.cell? ⟨xb, 3, none⟩ = some (.slice x3 n.kids.length x6)) ∧ (w'.cell? ⟨yb, 0, none⟩ = some (.bool n.leaf) ∧ w'.cell? ⟨yb, 1, none⟩ = some (.slice y1 n.cells.length y4) ∧ w'.cell? ⟨yb, 2, none⟩ = some (.slice y2 n.keys.length y5) ∧ w'.cell? ⟨yb, 3, none⟩ = some (.slice y3 n.kids.length y6)) ∧ (convert 31 9 (.slice p6 dd.length c6)).run Try.prog w' = .ok (.string ⟨dd.toArray⟩) w' ∧ (convert 31 9 (.slice p7 dd.length c7)).run Try.prog w' = .ok (.string ⟨dd.toArray⟩) w') := fun w' B => ⟨(HX8.out.below B).get, (HY8.out.below B).get, (HP8.out.below B).conv, (HQ8.out.below B).conv⟩
      have O1 := hid (A8.out wr.drew _ _ _ _ (HN8.out.below B0))
      have HNn2 := hid (fun w' (B : Below wr.heap.size wr w') => HM8.out.below B)
      clear HX7 HY7 HN7 HM7 HP7 HQ7 HX8 HY8 HN8 HM8 HP8 HQ8 HC HO HB7
      go_wp2
      go_region_held_law (fun w' => (w'.cell? ⟨xb, 0, none⟩ = some (.bool n.leaf) ∧ w'.cell? ⟨xb, 1, none⟩ = some (.slice x1 n.cells.length x4) ∧ w'.cell? ⟨xb, 2, none⟩ = some (.slice x2 n.keys.length x5) ∧ w'.cell? ⟨xb, 3, none⟩ = some (.slice x3 n.kids.length x6)) ∧ (w'.cell? ⟨yb, 0, none⟩ = some (.bool n.leaf) ∧ w'.cell? ⟨yb, 1, none⟩ = some (.slice y1 n.cells.length y4) ∧ w'.cell? ⟨yb, 2, none⟩ = some (.slice y2 n.keys.length y5) ∧ w'.cell? ⟨yb, 3, none⟩ = some (.slice y3 n.kids.length y6)) ∧ (convert 31 9 (.slice p6 dd.length c6)).run Try.prog w' = .ok (.string ⟨dd.toArray⟩) w' ∧ (convert 31 9 (.slice p7 dd.length c7)).run Try.prog w' = .ok (.string ⟨dd.toArray⟩) w') (with_reducible first | exact HS.out _ B0 | exact HS.out _ B6 | exact HS.out _ B7)
        (first
          | (go_at_call 17; with_reducible refine O1.out.mono ?_; rintro e w8 ⟨cv6, kv6, dv6, rfl, N6, b6⟩; have B6 := B0.trans (b6.mono B0.size); have O2 := hid (A9.out w8 _ _ _ _ _ _ _ _ N6 (HNn2.out w8 B6)); obtain ⟨q1, r1, q2, r2, q3, r3, hv1, hv2, hv3⟩ := N6.formed; subst hv1 hv2 hv3; clear N6 b6)
          | (go_at_call 16; with_reducible refine O2.out.mono ?_; rintro e w9 ⟨rfl, b7⟩; have B7 := B6.trans (b7.mono B6.size); clear b7)
          | fail)
      go_wp2
      go_ret
      exact ⟨rfl, HB8.out.trans (B7.mono HB8.out.size)⟩
end Go.Proofs.Ytilmlegkkgiahaa
