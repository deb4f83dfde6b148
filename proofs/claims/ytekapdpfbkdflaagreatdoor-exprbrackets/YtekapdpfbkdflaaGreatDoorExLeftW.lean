/- The law ExprLeft returns true and writes nothing that was there. Conditions: the library's variables hold what their text lays. -/
import Derived.Test.YtekapdpfbkdflaaGreatDoorExTk
import Derived.Test.YtekapdpfbkdflaaGreatDoorExSmal
import Derived.Lib.ItoaLen
namespace Go.Proofs.YtekapdpfbkdflaaGreatDoor
open Go.RowKit Go.Lib Go.Sort
set_option linter.unusedVariables false
set_option maxRecDepth 20000

theorem a3_of : ∀ (m : Nat) (e : Ex), OkA e → A3 m e
  | 0, _, _ => trivial
  | m + 1, e, h => ⟨(h 0).2.2.2, fun z hz => a3_of m z (fun k => (h (k + 1)).2 z hz)⟩
/-- Same, told. -/
theorem same_is (w : World) (x y : Ex) (px py : Option Addr) (cx cy : Nat) (b : Bool) (hb : b = true ↔ x = y) (ox : OkA x) (hx : ∃ k, EAt w (fun _ => True) k x px) (hy : ∃ k, EAt w (fun _ => True) k y py) :
    Calls Tryz.prog 12 #[.agg #[.int .i64 x.k, .int .i64 x.op, .int .i64 x.v.k, .int .i64 x.v.n, .string x.v.s, .string ⟨x.t.toArray⟩, .string ⟨x.n.toArray⟩, .int .i64 0, .int .i64 0, .slice px x.xs.length cx], .agg #[.int .i64 y.k, .int .i64 y.op, .int .i64 y.v.k, .int .i64 y.v.n, .string y.v.s, .string ⟨y.t.toArray⟩, .string ⟨y.n.toArray⟩, .int .i64 0, .int .i64 0, .slice py y.xs.length cy]] w fun e w' => e = .returned (.bool b) ∧ Below w.heap.size w w' := by
  obtain ⟨k1, h1⟩ := hx
  obtain ⟨k2, h2⟩ := hy
  have C := same_all (max k1 k2) w x y px py cx cy (a3_of _ _ ox) (h1.le (Nat.le_max_left ..)) (h2.le (Nat.le_max_right ..))
  refine C.mono ?_
  rintro e w' ⟨hB, r, rfl, hr⟩
  have : r = b := by
    have := hr.out
    cases r <;> cases b <;> simp_all
  rw [this]
  exact ⟨rfl, hB⟩
/-- A variable that holds an expression, with its operands. -/
def VX (w : World) (b : Nat) (e : Ex) (p : Option Addr) (c : Nat) : Prop := BG w b e.k e.op e.v.k e.v.n 0 0 e.v.s ⟨e.t.toArray⟩ ⟨e.n.toArray⟩ p e.xs.length c ∧ ∃ k, EAt w (fun _ => True) k e p
theorem VX.below {w w' : World} {b : Nat} {e : Ex} {p : Option Addr} {c : Nat} (h : VX w b e p c) (B : Below w.heap.size w w') : VX w' b e p c := by
  obtain ⟨h1, k, h2⟩ := h
  exact ⟨h1.below B, k, h2.chg (G := fun _ => False) (Chg.of_below B) (fun _ _ q => q)⟩
theorem VX.new {w : World} {e : Ex} {p : Option Addr} (c : Nat) (h : ∃ k, EAt w (fun _ => True) k e p) : VX (w.alloc (.cells #[.int .i64 e.k, .int .i64 e.op, .int .i64 e.v.k, .int .i64 e.v.n, .string e.v.s, .string ⟨e.t.toArray⟩, .string ⟨e.n.toArray⟩, .int .i64 0, .int .i64 0, .slice p e.xs.length c] 32)) w.heap.size e p c := by
  obtain ⟨k, h⟩ := h
  exact ⟨BG.new w _ _ _ _ _ _ _ _ _ _ _ _, k, h.chg (G := fun _ => False) (Chg.of_below (albl _ _)) (fun _ _ q => q)⟩
theorem sgn_mem (k : Nat) (h : k < 8) : ∃ g ∈ sgs, sgn8[k]? = some g.txt := by
  match k, h with
  | 0, _ => exact ⟨_, List.mem_of_getElem? (i := 0) rfl, rfl⟩
  | 1, _ => exact ⟨_, List.mem_of_getElem? (i := 1) rfl, rfl⟩
  | 2, _ => exact ⟨_, List.mem_of_getElem? (i := 2) rfl, rfl⟩
  | 3, _ => exact ⟨_, List.mem_of_getElem? (i := 3) rfl, rfl⟩
  | 4, _ => exact ⟨_, List.mem_of_getElem? (i := 4) rfl, rfl⟩
  | 5, _ => exact ⟨_, List.mem_of_getElem? (i := 5) rfl, rfl⟩
  | 6, _ => exact ⟨_, List.mem_of_getElem? (i := 6) rfl, rfl⟩
  | 7, _ => exact ⟨_, List.mem_of_getElem? (i := 7) rfl, rfl⟩
theorem vd_ok {c : UInt8} (h : Dg c) : -9223372036854775808 ≤ vD c ∧ vD c ≤ 9223372036854775807 := by
  have := h.2
  unfold vD
  omega
theorem oka_L (op : Int) {a b c : Int} (ha : -9223372036854775808 ≤ a ∧ a ≤ 9223372036854775807) (hb : -9223372036854775808 ≤ b ∧ b ≤ 9223372036854775807) (hc : -9223372036854775808 ≤ c ∧ c ≤ 9223372036854775807) : OkA (exL op a b c) := oka_two _ _ (oka_two _ _ (oka_num ha) (oka_num hb)) (oka_num hc)
theorem oka_R (op : Int) {a b c : Int} (ha : -9223372036854775808 ≤ a ∧ a ≤ 9223372036854775807) (hb : -9223372036854775808 ≤ b ∧ b ≤ 9223372036854775807) (hc : -9223372036854775808 ≤ c ∧ c ≤ 9223372036854775807) : OkA (exR op a b c) := oka_two _ _ (oka_num ha) (oka_two _ _ (oka_num hb) (oka_num hc))
/-- What the three texts are read as. -/
structure Lf (x y z : UInt8) (g : Sg) (T1 T2 T3 : Ts) (E1 E2 : Ex) : Prop where
  l1 : lexR (tL x y z g.txt) = .ok T1
  l2 : lexR (tM x y z g.txt) = .ok T2
  l3 : lexR (tR x y z g.txt) = .ok T3
  r1 : (lns 32).orr T1 = .ok (E1, [])
  r2 : (lns 32).orr T2 = .ok (E1, [])
  r3 : (lns 32).orr T3 = .ok (E2, [])
  o1 : OkA E1
  o2 : OkA E2
  ne : E1 ≠ E2
  len : (prE E2).length = (prE E1).length + 2
  sm : (prE E1).length ≤ 1000
theorem itoa_dg {c : UInt8} (h : Dg c) : (itoa (vD c)).length ≤ 20 := by
  have h1 := h.1
  have h2 := h.2
  unfold itoa vD
  rw [if_neg (by omega)]
  rw [decDigits_length]
  exact nDigits_le20 _ (by omega)
theorem prE_L2 {g : Sg} (hg : g ∈ sgs) (x y z : Int) : (prE (exL g.op x y z)).length ≤ (itoa x).length + (itoa y).length + (itoa z).length + 10 := by
  simp only [sgs, List.mem_cons, List.not_mem_nil, or_false] at hg
  rcases hg with rfl | rfl | rfl | rfl | rfl | rfl | rfl | rfl
  · show ((itoa x ++ 32 :: ([43] ++ 32 :: itoa y)) ++ 32 :: ([43] ++ 32 :: itoa z)).length ≤ _
    simp; omega
  · show ((itoa x ++ 32 :: ([45] ++ 32 :: itoa y)) ++ 32 :: ([45] ++ 32 :: itoa z)).length ≤ _
    simp; omega
  · show ((itoa x ++ 32 :: ([42] ++ 32 :: itoa y)) ++ 32 :: ([42] ++ 32 :: itoa z)).length ≤ _
    simp; omega
  · show ((itoa x ++ 32 :: ([47] ++ 32 :: itoa y)) ++ 32 :: ([47] ++ 32 :: itoa z)).length ≤ _
    simp; omega
  · show ((itoa x ++ 32 :: ([37] ++ 32 :: itoa y)) ++ 32 :: ([37] ++ 32 :: itoa z)).length ≤ _
    simp; omega
  · show ((itoa x ++ 32 :: ([124, 124] ++ 32 :: itoa y)) ++ 32 :: ([124, 124] ++ 32 :: itoa z)).length ≤ _
    simp; omega
  · show ((itoa x ++ 32 :: ([65, 78, 68] ++ 32 :: itoa y)) ++ 32 :: ([65, 78, 68] ++ 32 :: itoa z)).length ≤ _
    simp; omega
  · show ((itoa x ++ 32 :: ([79, 82] ++ 32 :: itoa y)) ++ 32 :: ([79, 82] ++ 32 :: itoa z)).length ≤ _
    simp; omega
theorem lf_any {x y z : UInt8} (hx : Dg x) (hy : Dg y) (hz : Dg z) {g : Sg} (hg : g ∈ sgs) : ∃ T1 T2 T3 E1 E2, Lf x y z g T1 T2 T3 E1 E2 := by
  obtain ⟨a1, a2, a3, a4, t1⟩ := toks_tL hx hy hz hg
  obtain ⟨b1, b2, b3, b4, b5, b6, t2⟩ := toks_tM hx hy hz hg
  obtain ⟨c1, c2, c3, c4, c5, c6, t3⟩ := toks_tR hx hy hz hg
  have hl := sgs_len hg
  have hp := prE_L hg (vD x) (vD y) (vD z)
  have hp2 := prE_L2 hg (vD x) (vD y) (vD z)
  have i1 := itoa_dg hx
  have i2 := itoa_dg hy
  have i3 := itoa_dg hz
  exact ⟨_, _, _, _, _, lexR_of (by simp [tL]; omega) t1, lexR_of (by simp [tM]; omega) t2, lexR_of (by simp [tR]; omega) t3, read_tL hg _ _ _ _ _ _ _, read_tM hg _ _ _ _ _ _ _ _ _, read_tR hg _ _ _ _ _ _ _ _ _,
    oka_L _ (vd_ok hx) (vd_ok hy) (vd_ok hz), oka_R _ (vd_ok hx) (vd_ok hy) (vd_ok hz), exLR _ _ _ _, hp, by omega⟩
set_option maxHeartbeats 16000000 in
theorem left_any (op a b c : Int) (w : World) (hE : Env w) (ha : -9223372036854775808 ≤ a ∧ a ≤ 9223372036854775807) (hb : -9223372036854775808 ≤ b ∧ b ≤ 9223372036854775807) (hc : -9223372036854775808 ≤ c ∧ c ≤ 9223372036854775807) :
    Calls Tryz.prog 6 #[.int .i64 op, .int .i64 a, .int .i64 b, .int .i64 c] w fun e w' => e = .returned (.bool true) ∧ Below w.heap.size w w' := by
  have HE := hid hE
  have CW := hid (works_any w hE)
  have CA := hid (fun w => small_any a w ha.1 ha.2)
  have CB := hid (fun w => small_any b w hb.1 hb.2)
  have CC := hid (fun w => small_any c w hc.1 hc.2)
  have hu0 : 0 ≤ IntKind.u64.wrap op := by
    have e : IntKind.u64.wrap op = op % 18446744073709551616 := by simp [IntKind.wrap, IntKind.bits, IntKind.signed]
    rw [e]; omega
  obtain ⟨k, hk, hk8⟩ : ∃ k : Nat, (IntKind.u64.wrap op).tmod 8 = (k : Int) ∧ k < 8 := by
    have a1 := Int.tmod_lt_of_pos (IntKind.u64.wrap op) (b := 8) (by decide)
    have a2 : 0 ≤ (IntKind.u64.wrap op).tmod 8 := Int.tmod_nonneg 8 hu0
    exact ⟨((IntKind.u64.wrap op).tmod 8).toNat, by omega, by omega⟩
  have hw0 : IntKind.u64.wrap (k : Int) = (k : Int) := by
    have e : IntKind.u64.wrap (k : Int) = (k : Int) % 18446744073709551616 := by simp [IntKind.wrap, IntKind.bits, IntKind.signed]
    rw [e]; omega
  have hw1 : IntKind.i64.wrap (k : Int) = (k : Int) := by rw [IntKind.wrap_i64]; omega
  have hk0 : 0 ≤ (k : Int) := by omega
  have hk9 : (k : Int) < 8 := by omega
  obtain ⟨g, hg, hgt⟩ := sgn_mem k hk8
  have hgl := sgs_len hg
  have HG := hid hg
  have HGT := hid hgt
  clear hE ha hb hc hu0 hg hgt hk8
  go_enter Tryz.func6, Tryz.ntmps6
  go_upto_region 4 with (go_at_call 7; with_reducible refine CW.out.mono ?_; rintro e w1 ⟨rfl, b1⟩; have B1 := hid b1; clear b1)
  have hcell : (w1.alloc (.cells #[.string ⟨#[43]⟩, .string ⟨#[45]⟩, .string ⟨#[42]⟩, .string ⟨#[47]⟩, .string ⟨#[37]⟩, .string ⟨#[124, 124]⟩, .string ⟨#[97, 110, 100]⟩, .string ⟨#[111, 114]⟩] 9)).cell? ⟨w1.heap.size, k, none⟩ = some (.string ⟨g.txt.toArray⟩) := by
    have e := heap_alloc_new w1 (.cells #[.string ⟨#[43]⟩, .string ⟨#[45]⟩, .string ⟨#[42]⟩, .string ⟨#[47]⟩, .string ⟨#[37]⟩, .string ⟨#[124, 124]⟩, .string ⟨#[97, 110, 100]⟩, .string ⟨#[111, 114]⟩] 9)
    rw [Lib.cell_of_heap (show _ = some (Obj.cells _ _ (0, 0)) from e)]
    have h2 : (#[.string ⟨#[43]⟩, .string ⟨#[45]⟩, .string ⟨#[42]⟩, .string ⟨#[47]⟩, .string ⟨#[37]⟩, .string ⟨#[124, 124]⟩, .string ⟨#[97, 110, 100]⟩, .string ⟨#[111, 114]⟩] : Array Value) = (sgn8.map fun s => (.string ⟨s.toArray⟩ : Value)).toArray := rfl
    rw [h2, List.getElem?_toArray, List.getElem?_map, HGT.out]
    rfl
  have B2 := hid (B1.out.trans ((albl w1 (.cells #[.string ⟨#[43]⟩, .string ⟨#[45]⟩, .string ⟨#[42]⟩, .string ⟨#[47]⟩, .string ⟨#[37]⟩, .string ⟨#[124, 124]⟩, .string ⟨#[97, 110, 100]⟩, .string ⟨#[111, 114]⟩] 9)).mono B1.out.size))
  generalize hW2 : World.alloc w1 _ = W2 at *
  clear hW2
  go_upto_region 5 with fail
  clear hcell
  have D1 := hid (CA.out W2)
  go_upto_region 6 with (first
    | (go_at_call 15; with_reducible refine D1.out.mono ?_; rintro e w3 ⟨⟨x, hx, rfl⟩, b3⟩; have HX := hid hx; have B3 := hid (B2.out.trans (b3.mono B2.out.size)); have D2 := hid (CB.out w3); clear hx b3 D1)
    | (go_at_call 15; with_reducible refine D2.out.mono ?_; rintro e w4 ⟨⟨y, hy, rfl⟩, b4⟩; have HY := hid hy; have B4 := hid (B3.out.trans (b4.mono B3.out.size)); have D3 := hid (CC.out w4); clear hy b4 D2)
    | (go_at_call 15; with_reducible refine D3.out.mono ?_; rintro e w5 ⟨⟨z, hz, rfl⟩, b5⟩; have HZ := hid hz; have B5 := hid (B4.out.trans (b5.mono B4.out.size)); clear hz b5 D3)
    | fail)
  obtain ⟨T1, T2, T3, E1, E2, hLf⟩ := lf_any HX.out HY.out HZ.out HG.out
  have HL := hid hLf
  clear hLf
  obtain ⟨gt, hgt⟩ : ∃ gt : ByteArray, gt = ⟨g.txt.toArray⟩ := ⟨_, rfl⟩
  rw [← hgt]
  have hgs : gt.size = g.txt.length := by rw [hgt]; rfl
  have hx1 : (⟨#[x]⟩ : ByteArray).size = 1 := rfl
  have hy1 : (⟨#[y]⟩ : ByteArray).size = 1 := rfl
  have hz1 : (⟨#[z]⟩ : ByteArray).size = 1 := rfl
  have hs1 : (⟨#[32]⟩ : ByteArray).size = 1 := rfl
  have ho1 : (⟨#[40]⟩ : ByteArray).size = 1 := rfl
  have hc1 : (⟨#[41]⟩ : ByteArray).size = 1 := rfl
  have hc2 : (⟨#[41, 32]⟩ : ByteArray).size = 2 := rfl
  have ho2 : (⟨#[32, 40]⟩ : ByteArray).size = 2 := rfl
  have HS1 : Hid ((⟨#[x]⟩ ++ ⟨#[32]⟩ ++ gt ++ ⟨#[32]⟩ ++ ⟨#[y]⟩ ++ ⟨#[32]⟩ ++ gt ++ ⟨#[32]⟩ ++ ⟨#[z]⟩ : ByteArray).data.toList = tL x y z g.txt) := by show _ = _; rw [hgt]; simp [tL]
  have HS2 : Hid ((⟨#[40]⟩ ++ ⟨#[x]⟩ ++ ⟨#[32]⟩ ++ gt ++ ⟨#[32]⟩ ++ ⟨#[y]⟩ ++ ⟨#[41, 32]⟩ ++ gt ++ ⟨#[32]⟩ ++ ⟨#[z]⟩ : ByteArray).data.toList = tM x y z g.txt) := by show _ = _; rw [hgt]; simp [tM]
  have HS3 : Hid ((⟨#[x]⟩ ++ ⟨#[32]⟩ ++ gt ++ ⟨#[32, 40]⟩ ++ ⟨#[y]⟩ ++ ⟨#[32]⟩ ++ gt ++ ⟨#[32]⟩ ++ ⟨#[z]⟩ ++ ⟨#[41]⟩ : ByteArray).data.toList = tR x y z g.txt) := by show _ = _; rw [hgt]; simp [tR]
  clear hgt
  have K1 := hid (fun w (h : Env w) => tok_ok (⟨#[x]⟩ ++ ⟨#[32]⟩ ++ gt ++ ⟨#[32]⟩ ++ ⟨#[y]⟩ ++ ⟨#[32]⟩ ++ gt ++ ⟨#[32]⟩ ++ ⟨#[z]⟩) T1 w (by simp only [ByteArray.size_append]; omega) h.ry (by rw [HS1.out]; exact HL.out.l1))
  have K2 := hid (fun w (h : Env w) => tok_ok (⟨#[40]⟩ ++ ⟨#[x]⟩ ++ ⟨#[32]⟩ ++ gt ++ ⟨#[32]⟩ ++ ⟨#[y]⟩ ++ ⟨#[41, 32]⟩ ++ gt ++ ⟨#[32]⟩ ++ ⟨#[z]⟩) T2 w (by simp only [ByteArray.size_append]; omega) h.ry (by rw [HS2.out]; exact HL.out.l2))
  have K3 := hid (fun w (h : Env w) => tok_ok (⟨#[x]⟩ ++ ⟨#[32]⟩ ++ gt ++ ⟨#[32, 40]⟩ ++ ⟨#[y]⟩ ++ ⟨#[32]⟩ ++ gt ++ ⟨#[32]⟩ ++ ⟨#[z]⟩ ++ ⟨#[41]⟩) T3 w (by simp only [ByteArray.size_append]; omega) h.ry (by rw [HS3.out]; exact HL.out.l3))
  have R1 := hid (fun w p c (h : Env w) (t : TR w p T1) => read0_ok (c := c) w t h.gl (lxd_of HL.out.l1) HL.out.r1 _ rfl)
  have R2 := hid (fun w p c (h : Env w) (t : TR w p T2) => read0_ok (c := c) w t h.gl (lxd_of HL.out.l2) HL.out.r2 _ rfl)
  have R3 := hid (fun w p c (h : Env w) (t : TR w p T3) => read0_ok (c := c) w t h.gl (lxd_of HL.out.l3) HL.out.r3 _ rfl)
  have G1 := hid (K1.out w5 (HE.out.below B5.out))
  go_upto_region 7 with (first
    | (go_at_call 11; with_reducible refine G1.out.mono ?_; rintro e w6 ⟨p6, c6, rfl, t6, b6⟩; have B6 := hid (B5.out.trans (b6.mono B5.out.size)); have G2 := hid (R1.out w6 p6 c6 (HE.out.below B6.out) t6); clear t6 b6)
    | (go_at_call 9; with_reducible refine G2.out.mono ?_; rintro e w7 ⟨pl, cl, rfl, q7, b7⟩; have Q7 := hid q7; have B7 := hid (B6.out.trans (b7.mono B6.out.size)); clear q7 b7)
    | fail)
  have BA := albl w7 (.cells #[.int .i64 E1.k, .int .i64 E1.op, .int .i64 E1.v.k, .int .i64 E1.v.n, .string E1.v.s, .string ⟨E1.t.toArray⟩, .string ⟨E1.n.toArray⟩, .int .i64 0, .int .i64 0, .slice pl E1.xs.length cl] 32)
  have B8 := hid (B7.out.trans (BA.mono B7.out.size))
  have VL := hid (VX.new cl Q7.out)
  clear BA Q7 G1 G2
  generalize hW8 : World.alloc w7 _ = W8 at *
  clear hW8
  generalize w7.heap.size = bl at *
  have G3 := hid (K2.out W8 (HE.out.below B8.out))
  go_upto_region 8 with (first
    | (go_at_call 11; with_reducible refine G3.out.mono ?_; rintro e w9 ⟨p9, c9, rfl, t9, b9⟩; have B9 := hid (B8.out.trans (b9.mono B8.out.size)); have VL9 := hid (VL.out.below b9); have G4 := hid (R2.out w9 p9 c9 (HE.out.below B9.out) t9); clear t9 b9)
    | (go_at_call 9; with_reducible refine G4.out.mono ?_; rintro e w10 ⟨pm, cm, rfl, q10, b10⟩; have Q10 := hid q10; have B10 := hid (B9.out.trans (b10.mono B9.out.size)); have VL10 := hid (VL9.out.below b10); clear q10 b10)
    | fail)
  have BA := albl w10 (.cells #[.int .i64 E1.k, .int .i64 E1.op, .int .i64 E1.v.k, .int .i64 E1.v.n, .string E1.v.s, .string ⟨E1.t.toArray⟩, .string ⟨E1.n.toArray⟩, .int .i64 0, .int .i64 0, .slice pm E1.xs.length cm] 32)
  have B11 := hid (B10.out.trans (BA.mono B10.out.size))
  have VM := hid (VX.new cm Q10.out)
  have VL11 := hid (VL10.out.below BA)
  clear BA Q10 G3 G4
  generalize hW11 : World.alloc w10 _ = W11 at *
  clear hW11
  generalize w10.heap.size = bm at *
  have G5 := hid (K3.out W11 (HE.out.below B11.out))
  go_upto_region 9 with (first
    | (go_at_call 11; with_reducible refine G5.out.mono ?_; rintro e w12 ⟨p12, c12, rfl, t12, b12⟩; have B12 := hid (B11.out.trans (b12.mono B11.out.size)); have VL12 := hid (VL11.out.below b12); have VM12 := hid (VM.out.below b12); have G6 := hid (R3.out w12 p12 c12 (HE.out.below B12.out) t12); clear t12 b12)
    | (go_at_call 9; with_reducible refine G6.out.mono ?_; rintro e w13 ⟨pr, cr, rfl, q13, b13⟩; have Q13 := hid q13; have B13 := hid (B12.out.trans (b13.mono B12.out.size)); have VL13 := hid (VL12.out.below b13); have VM13 := hid (VM12.out.below b13); clear q13 b13)
    | fail)
  have BA := albl w13 (.cells #[.int .i64 E2.k, .int .i64 E2.op, .int .i64 E2.v.k, .int .i64 E2.v.n, .string E2.v.s, .string ⟨E2.t.toArray⟩, .string ⟨E2.n.toArray⟩, .int .i64 0, .int .i64 0, .slice pr E2.xs.length cr] 32)
  have B14 := hid (B13.out.trans (BA.mono B13.out.size))
  have VR := hid (VX.new cr Q13.out)
  have VL14 := hid (VL13.out.below BA)
  have VM14 := hid (VM13.out.below BA)
  clear BA Q13 G5 G6
  generalize hW14 : World.alloc w13 _ = W14 at *
  clear hW14
  generalize w13.heap.size = br at *
  have S1 : Hid (∀ (d : Nat) (os : Array Obj), Calls Tryz.prog 12 #[.agg #[.int .i64 E1.k, .int .i64 E1.op, .int .i64 E1.v.k, .int .i64 E1.v.n, .string E1.v.s, .string ⟨E1.t.toArray⟩, .string ⟨E1.n.toArray⟩, .int .i64 0, .int .i64 0, .slice pl E1.xs.length cl], .agg #[.int .i64 E1.k, .int .i64 E1.op, .int .i64 E1.v.k, .int .i64 E1.v.n, .string E1.v.s, .string ⟨E1.t.toArray⟩, .string ⟨E1.n.toArray⟩, .int .i64 0, .int .i64 0, .slice pm E1.xs.length cm]] (grow (redrawn W14 d) os) fun e w'' => e = .returned (.bool true) ∧ ∃ q : Regrown, w'' = grow (redrawn W14 q.d) q.os) := fun d os => Calls.regrown_of (same_is _ E1 E1 pl pm cl cm true (by simp) HL.out.o1 (VL14.out.below (below_regrown W14 d os)).2 (VM14.out.below (below_regrown W14 d os)).2)
  have S2 : Hid (∀ (d : Nat) (os : Array Obj), Calls Tryz.prog 12 #[.agg #[.int .i64 E1.k, .int .i64 E1.op, .int .i64 E1.v.k, .int .i64 E1.v.n, .string E1.v.s, .string ⟨E1.t.toArray⟩, .string ⟨E1.n.toArray⟩, .int .i64 0, .int .i64 0, .slice pl E1.xs.length cl], .agg #[.int .i64 E2.k, .int .i64 E2.op, .int .i64 E2.v.k, .int .i64 E2.v.n, .string E2.v.s, .string ⟨E2.t.toArray⟩, .string ⟨E2.n.toArray⟩, .int .i64 0, .int .i64 0, .slice pr E2.xs.length cr]] (grow (redrawn W14 d) os) fun e w'' => e = .returned (.bool false) ∧ ∃ q : Regrown, w'' = grow (redrawn W14 q.d) q.os) := fun d os => Calls.regrown_of (same_is _ E1 E2 pl pr cl cr false (by simp [HL.out.ne]) HL.out.o1 (VL14.out.below (below_regrown W14 d os)).2 (VR.out.below (below_regrown W14 d os)).2)
  have P1 : Hid (∀ (d : Nat) (os : Array Obj), Calls Tryz.prog 10 #[.agg #[.int .i64 E1.k, .int .i64 E1.op, .int .i64 E1.v.k, .int .i64 E1.v.n, .string E1.v.s, .string ⟨E1.t.toArray⟩, .string ⟨E1.n.toArray⟩, .int .i64 0, .int .i64 0, .slice pl E1.xs.length cl]] (grow (redrawn W14 d) os) fun e w'' => e = .returned (.string ⟨(prE E1).toArray⟩) ∧ ∃ q : Regrown, w'' = grow (redrawn W14 q.d) q.os) := fun d os => by
    obtain ⟨k1, q1⟩ := (VL14.out.below (below_regrown W14 d os)).2
    have he := HE.out.below (B14.out.trans ((below_regrown W14 d os).mono B14.out.size))
    exact Calls.regrown_of (print_any k1 E1 pl cl (HL.out.o1 k1) q1 he.gl he.rd (by have := HL.out.sm; omega))
  have P2 : Hid (∀ (d : Nat) (os : Array Obj), Calls Tryz.prog 10 #[.agg #[.int .i64 E2.k, .int .i64 E2.op, .int .i64 E2.v.k, .int .i64 E2.v.n, .string E2.v.s, .string ⟨E2.t.toArray⟩, .string ⟨E2.n.toArray⟩, .int .i64 0, .int .i64 0, .slice pr E2.xs.length cr]] (grow (redrawn W14 d) os) fun e w'' => e = .returned (.string ⟨(prE E2).toArray⟩) ∧ ∃ q : Regrown, w'' = grow (redrawn W14 q.d) q.os) := fun d os => by
    obtain ⟨k1, q1⟩ := (VR.out.below (below_regrown W14 d os)).2
    have he := HE.out.below (B14.out.trans ((below_regrown W14 d os).mono B14.out.size))
    exact Calls.regrown_of (print_any k1 E2 pr cr (HL.out.o2 k1) q1 he.gl he.rd (by have := HL.out.sm; have := HL.out.len; omega))
  have z1 : (⟨(prE E1).toArray⟩ : ByteArray).size = (prE E1).length := rfl
  have z2 : (⟨(prE E2).toArray⟩ : ByteArray).size = (prE E1).length + 2 := by show (prE E2).length = _; exact HL.out.len
  have zs := HL.out.sm
  generalize (⟨(prE E1).toArray⟩ : ByteArray) = U1 at *
  generalize (⟨(prE E2).toArray⟩ : ByteArray) = U2 at *
  generalize (prE E1).length = N1 at *
  have zz : ((U2.size : Int) == (U1.size : Int) + 2) = true := by rw [z1, z2]; simp
  have zw : IntKind.i64.wrap ((U1.size : Int) + 2) = (U1.size : Int) + 2 := by rw [z1, IntKind.wrap_i64]; omega
  obtain ⟨x0, x1, x2, x3, x4, x5, x6, x7, x8, x9⟩ := VL14.out.1.cells
  obtain ⟨y0, y1, y2, y3, y4, y5, y6, y7, y8, y9⟩ := VM14.out.1.cells
  obtain ⟨r0, r1, r2, r3, r4, r5, r6, r7, r8, r9⟩ := VR.out.1.cells
  have qx0 := fun (d : Nat) (os : Array Obj) => cell_regrown x0 d os
  have qx1 := fun (d : Nat) (os : Array Obj) => cell_regrown x1 d os
  have qx2 := fun (d : Nat) (os : Array Obj) => cell_regrown x2 d os
  have qx3 := fun (d : Nat) (os : Array Obj) => cell_regrown x3 d os
  have qx4 := fun (d : Nat) (os : Array Obj) => cell_regrown x4 d os
  have qx5 := fun (d : Nat) (os : Array Obj) => cell_regrown x5 d os
  have qx6 := fun (d : Nat) (os : Array Obj) => cell_regrown x6 d os
  have qx7 := fun (d : Nat) (os : Array Obj) => cell_regrown x7 d os
  have qx8 := fun (d : Nat) (os : Array Obj) => cell_regrown x8 d os
  have qx9 := fun (d : Nat) (os : Array Obj) => cell_regrown x9 d os
  have qy0 := fun (d : Nat) (os : Array Obj) => cell_regrown y0 d os
  have qy1 := fun (d : Nat) (os : Array Obj) => cell_regrown y1 d os
  have qy2 := fun (d : Nat) (os : Array Obj) => cell_regrown y2 d os
  have qy3 := fun (d : Nat) (os : Array Obj) => cell_regrown y3 d os
  have qy4 := fun (d : Nat) (os : Array Obj) => cell_regrown y4 d os
  have qy5 := fun (d : Nat) (os : Array Obj) => cell_regrown y5 d os
  have qy6 := fun (d : Nat) (os : Array Obj) => cell_regrown y6 d os
  have qy7 := fun (d : Nat) (os : Array Obj) => cell_regrown y7 d os
  have qy8 := fun (d : Nat) (os : Array Obj) => cell_regrown y8 d os
  have qy9 := fun (d : Nat) (os : Array Obj) => cell_regrown y9 d os
  have qr0 := fun (d : Nat) (os : Array Obj) => cell_regrown r0 d os
  have qr1 := fun (d : Nat) (os : Array Obj) => cell_regrown r1 d os
  have qr2 := fun (d : Nat) (os : Array Obj) => cell_regrown r2 d os
  have qr3 := fun (d : Nat) (os : Array Obj) => cell_regrown r3 d os
  have qr4 := fun (d : Nat) (os : Array Obj) => cell_regrown r4 d os
  have qr5 := fun (d : Nat) (os : Array Obj) => cell_regrown r5 d os
  have qr6 := fun (d : Nat) (os : Array Obj) => cell_regrown r6 d os
  have qr7 := fun (d : Nat) (os : Array Obj) => cell_regrown r7 d os
  have qr8 := fun (d : Nat) (os : Array Obj) => cell_regrown r8 d os
  have qr9 := fun (d : Nat) (os : Array Obj) => cell_regrown r9 d os
  clear x0 x1 x2 x3 x4 x5 x6 x7 x8 x9 y0 y1 y2 y3 y4 y5 y6 y7 y8 y9 r0 r1 r2 r3 r4 r5 r6 r7 r8 r9 hx1 hy1 hz1 hs1 ho1 hc1 hc2 ho2 hgs hgl hk hw0 hw1 hk0 hk9
  refine wp_region_quiet_below (by kernel_rfl) (by kernel_rfl) ?_
  repeat (first | go_big_quiet_step (first | (with_reducible exact S1.out _ _) | (with_reducible exact S2.out _ _) | (with_reducible exact P1.out _ _) | (with_reducible exact P2.out _ _)) | quiet_step (first | (with_reducible exact S1.out _ _) | (with_reducible exact S2.out _ _) | (with_reducible exact P1.out _ _) | (with_reducible exact P2.out _ _)))
  refine wpQuiet_nil ?_
  intro _ hw'
  obtain ⟨⟨dq, osq⟩, hw''⟩ := hw'
  subst hw''
  go_wp2_with fail
  go_ret
  exact ⟨rfl, B14.out.trans ((below_regrown W14 dq osq).mono B14.out.size)⟩
end Go.Proofs.YtekapdpfbkdflaaGreatDoor
