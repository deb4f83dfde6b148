/- What 'both' does: mend. Condition: fewer than a million writes are pending. -/
import Derived.Test.YtfgcjcffplglhaaDkBothR
import Derived.Deep.RegionHeldLaw
namespace Go.Proofs.Ytfgcjcffplglhaa
open Go.RowKit
set_option linter.unusedVariables false
set_option maxRecDepth 20000

def kcells (l : List Bool) : List Value := l.map fun b => Value.bool b
theorem kcells_len (l : List Bool) : (kcells l).length = l.length := List.length_map ..
theorem kcells_at {l : List Bool} {i : Nat} (h : i < l.length) : (kcells l)[i]? = some (.bool l[i]) := by simp [kcells, h]
theorem kcells_one (l : List Bool) : ∀ u ∈ kcells l, u.oneCell' = true := by
  intro u hu
  obtain ⟨b, _, rfl⟩ := List.mem_map.1 hu
  rfl
theorem infoBool : (Try.prog.info? 4).map (fun i => (i.zero, i.size, i.bytes)) = some (some (.bool false), 1, 1) := by kernel_rfl
theorem Bits.src {w : World} {p : Option Addr} {l : List Bool} (h : Bits w p l) (hl : 0 < l.length) : ∃ ad, p = some ad ∧ ∀ j v, (kcells l)[j]? = some v → w.cell? (ad.add j) = some v := by
  rcases h with rfl | ⟨b, off, rfl, hc⟩
  · simp at hl
  · refine ⟨_, rfl, fun j v hv => ?_⟩
    have hj : j < l.length := by have := (List.getElem?_eq_some_iff.1 hv).1; rwa [kcells_len] at this
    rw [Addr.add_mid, hc j hj, ← hv, kcells_at hj]
theorem own_bits {w : World} {base g c n : Nat} {l : List Bool} (o : w.ownsRow base 4 1 (.slice (some ⟨g, 0, none⟩) n c) n (kcells l)) (hn : n = l.length) : Bits w (some ⟨g, 0, none⟩) l := by
  subst hn
  obtain ⟨h1, h2⟩ := o
  rcases h2 with ⟨e, _⟩ | ⟨g', cap, cur, e, hg, hh, hle, hm, hs, ht⟩
  · cases e
  · simp only [Value.slice.injEq, Option.some.injEq, Addr.mk.injEq] at e
    obtain ⟨⟨rfl, _⟩, _, rfl⟩ := e
    refine Or.inr ⟨g, 0, rfl, fun i hi => ?_⟩
    have hu := kcells_at hi
    rw [← ht, List.getElem?_take, if_pos (by omega), Array.getElem?_toList] at hu
    simp [World.cell?, hh, hu]
/-- append of nothing onto a slice of no bools, at a step of a region that draws. -/
theorem st_none0 {ops : Array Oper} {o : Oper} {a : Act} {w : World} {K : Act → World → Prop} {Q : Exit → Act → World → Prop} {E : Prop} (s x : Operand) (hgd : o.guard = none)
    (ho : o.op = .call { callee := .builtin .append, args := #[s, x], argTypes := #[31, 31] }) (g : Nat) (c0 : Nat) (hs : a.eval s = .slice (some ⟨g, 0, none⟩) 0 c0) (p : Option Addr) (c : Nat) (hx : a.eval x = .slice p 0 c)
    (h : K (a.put o.dst (.slice (some ⟨g, 0, none⟩) 0 c0)) w) : if Region.wanted o (yielded ops a.tmps) = true then Oper.wp Try.prog o a w K Q else E := by
  have hw : Region.wanted o (yielded ops a.tmps) = true := by simp [Region.wanted, hgd]
  rw [if_pos hw]
  obtain ⟨i0, hi, hz0, hz1, hz2⟩ := info_parts infoBool
  have hr : (Builtin.append_ #[31, 31] o.type #[.slice (some ⟨g, 0, none⟩) 0 c0, .slice p 0 c]).run Try.prog w = .ok (.slice (some ⟨g, 0, none⟩) 0 c0) w := by
    cases p with
    | none => simp [Builtin.append_, run_underlying Try.underlying31, Builtin.lenOf, Builtin.firstCells, sizeOf, typeInfo, hi, storeCells]
    | some ad =>
      have hl : (loadCells ad 0).run Try.prog w = .ok #[] w := by simpa using run_loadCells_list (P := Try.prog) w ad [] (by simp)
      simp [Builtin.append_, run_underlying Try.underlying31, Builtin.lenOf, Builtin.firstCells, sizeOf, typeInfo, hi, storeCells, hl]
  unfold Oper.wp execOp
  simp only [ho, resolve, invoke, builtin, Sem.run_bind, Sem.run_pure, Result.andThen_ok, List.map_toArray, List.map_cons, List.map_nil, hs, hx, hr]
  exact h
theorem ownK_new (w : World) : (w.alloc (.cells #[] 4)).ownsRow w.heap.size 4 1 (.slice (some ⟨w.heap.size, 0, none⟩) 0 0) 0 (kcells []) := World.ownsRow_made w #[] 0 (Nat.le_refl _) (Nat.zero_le _) (by simp)
set_option maxRecDepth 20000 in
set_option maxHeartbeats 4000000 in
theorem both_mend0 {w0 w : World} {db rb : Nat} {d : Dk} (n torn cut : Int) (f : UInt8) (b : List UInt8) (lo : Bool) (bp kp : Option Addr) (bc kc : Nat) (h : T2 w0.heap.size w0 w db rb d d (fun _ => False)) (hm : d.pend.length < 1000000) (hbi : Bits w0 kp []) (hkl : 0 ≤ 140737488351232) (hkc : 0 ≤ kc) :
    Calls Try.prog 15 #[.pointer (some ⟨db, 0, none⟩), .pointer (some ⟨rb, 0, none⟩), .agg #[.int .i64 4, .int .i64 n, .int .u8 (f.toNat : Int), .slice bp b.length bc, .bool lo, .slice kp 0 kc, .int .i64 torn, .int .i64 cut]] w fun e w' => e = .returned (.bool true) ∧ T2 w0.heap.size w0 w' db rb (d.mended [] torn cut) (d.mended [] torn cut) (fun _ => False) := by
  obtain ⟨Z, z1, t1, x1, hs1⟩ := h.box [.int .i64 4, .int .i64 n, .int .u8 (f.toNat : Int), .slice bp b.length bc, .bool lo, .slice kp 0 kc, .int .i64 torn, .int .i64 cut] 33
  have HZ1 := hid z1
  have HT1 := hid t1
  have HX1 := hid x1
  have HM := hid hm
  have HS1 := hid hs1
  have HBt : Hid (∀ w5 : World, Below w0.heap.size w0 w5 → Bits w5 kp []) := fun w5 B => hbi.below B
  have HLt : Hid ([] ≠ [] → ∀ b off, kp = some ⟨b, off, none⟩ → b < w0.heap.size) := hbi.lt
  have HKL := hid hkl
  have HKC := hid hkc
  have HMR : Hid (∀ (Z2 : Nat → Prop) (w5 : World), T2 w0.heap.size w0 w5 db rb (d.mended [] torn cut) d Z2 → Calls Try.prog 42 #[.pointer (some ⟨rb, 0, none⟩), .slice kp 0 kc, .int .i64 torn, .int .i64 cut] w5 fun e w' => e = .returned (.tuple #[]) ∧ T2 w0.heap.size w0 w' db rb (d.mended [] torn cut) (d.mended [] torn cut) Z2) := fun Z2 w5 t =>
    (t.mendR kp [] kc torn cut HM.out (HBt.out w5 t.bel) (fun hem b' off e => Or.inl (HLt.out hem b' off e)) HKC.out).mono (fun _ _ x => ⟨x.1, x.2.1⟩)
  have HLT1 : Hid (w.heap.size < (w.alloc (.cells #[.int .i64 4, .int .i64 n, .int .u8 (f.toNat : Int), .slice bp b.length bc, .bool lo, .slice kp 0 kc, .int .i64 torn, .int .i64 cut] 33)).heap.size) := HX1.out.lt
  clear h hm hs1 t1 x1 z1 hbi hkl hkc HS1
  go_enter Try.func15, Try.ntmps15
  go_wp2
  generalize (w.alloc (.cells #[.int .i64 4, .int .i64 n, .int .u8 (f.toNat : Int), .slice bp b.length bc, .bool lo, .slice kp 0 kc, .int .i64 torn, .int .i64 cut] 33)) = w1 at *
  generalize w.heap.size = bx at *
  have HSS : Hid (∀ w5 : World, Blk w5 bx [.int .i64 4, .int .i64 n, .int .u8 (f.toNat : Int), .slice bp b.length bc, .bool lo, .slice kp 0 kc, .int .i64 torn, .int .i64 cut] 33 → w5.cell? ⟨bx, 5, none⟩ = some (.slice kp 0 kc) ∧ w5.cell? ⟨bx, 6, none⟩ = some (.int .i64 torn) ∧ w5.cell? ⟨bx, 7, none⟩ = some (.int .i64 cut)) := fun w5 bx => ⟨bx.cell 5, bx.cell 6, bx.cell 7⟩
  have HBa : Hid (Below w1.heap.size w1 (w1.drew.alloc (.cells #[] 4))) := (((Below.refl _ w1).drew).alloc (w := w1.drew) (Nat.le_refl _) _ : Below w1.heap.size w1 (w1.drew.alloc (.cells #[] 4)))
  have HXc : Hid (∀ w5 : World, Below w1.heap.size w1 w5 → Blk w5 bx [.int .i64 4, .int .i64 n, .int .u8 (f.toNat : Int), .slice bp b.length bc, .bool lo, .slice kp 0 kc, .int .i64 torn, .int .i64 cut] 33) := fun w5 B => HX1.out.below B HX1.out.lt
  have HSa := hid (HSS.out w1 HX1.out)
  have HSb := hid (HSS.out w1.drew HX1.out)
  have HSc := hid (HSS.out _ (HXc.out _ HBa.out))
  have HML : Hid (Calls Try.prog 14 #[.pointer (some ⟨db, 0, none⟩), .slice (some ⟨w1.heap.size, 0, none⟩) 0 0, .int .i64 torn, .int .i64 cut] (w1.alloc (.cells #[] 4)).drew fun e w' => e = .returned (.tuple #[]) ∧ T2 w0.heap.size w0 w' db rb (d.mended [] torn cut) d Z ∧ (w'.cell? ⟨bx, 5, none⟩ = some (.slice kp 0 kc) ∧ w'.cell? ⟨bx, 6, none⟩ = some (.int .i64 torn) ∧ w'.cell? ⟨bx, 7, none⟩ = some (.int .i64 cut))) := by
    have HBa : Hid (Below w1.heap.size w1 (w1.alloc (.cells #[] 4)).drew) := ((Below.refl _ _).alloc (Nat.le_refl _) _).drew
    refine ((HT1.out.grow HBa.out).mendL (some ⟨w1.heap.size, 0, none⟩) [] 0 torn cut HM.out (Or.inl rfl) (fun q => absurd rfl q)).mono ?_
    rintro e w6 ⟨he, T6, K6⟩
    exact ⟨he, T6, HSS.out w6 (K6.blk (HXc.out _ HBa.out) (Or.inr HZ1.out))⟩
  clear HXc HBa HBt HLt HKL HKC
  go_region_held_law (fun w' => w'.cell? ⟨bx, 5, none⟩ = some (.slice kp 0 kc) ∧ w'.cell? ⟨bx, 6, none⟩ = some (.int .i64 torn) ∧ w'.cell? ⟨bx, 7, none⟩ = some (.int .i64 cut)) (first | exact HSa.out | exact HSb.out | exact HSc.out | exact HS6.out)
    (first
      | (refine st_none0 _ _ rfl rfl _ _ rfl _ _ rfl ?_)
      | (go_at_call 14; go_loud ((with_reducible refine HML.out.mono ?_); rintro e w6 ⟨rfl, T6, s6⟩; have HS6 := hid s6; have HR6 := hid (HMR.out Z w6 T6); clear T6 s6 HML))
      | fail)
  obtain ⟨c5, c6, c7⟩ := HS6.out
  go_wp2_with (first
    | (go_at_call 42; go_loud ((with_reducible refine HR6.out.mono ?_); rintro e w7 ⟨rfl, T7⟩; have HT7 := hid T7; clear T7 HR6))
    | fail)
  go_ret
  exact ⟨rfl, HT7.out.less (fun _ h => h.elim)⟩
set_option maxRecDepth 20000 in
set_option maxHeartbeats 4000000 in
theorem both_mend {w0 w : World} {db rb : Nat} {d : Dk} (n torn cut : Int) (f : UInt8) (b : List UInt8) (lo : Bool) (keep : List Bool) (bp kp : Option Addr) (bc kc : Nat) (h : T2 w0.heap.size w0 w db rb d d (fun _ => False)) (hm : d.pend.length < 1000000) (hem : keep ≠ []) (hbi : Bits w0 kp keep) (hkl : keep.length ≤ 140737488351232) (hkc : keep.length ≤ kc) :
    Calls Try.prog 15 #[.pointer (some ⟨db, 0, none⟩), .pointer (some ⟨rb, 0, none⟩), .agg #[.int .i64 4, .int .i64 n, .int .u8 (f.toNat : Int), .slice bp b.length bc, .bool lo, .slice kp keep.length kc, .int .i64 torn, .int .i64 cut]] w fun e w' => e = .returned (.bool true) ∧ T2 w0.heap.size w0 w' db rb (d.mended keep torn cut) (d.mended keep torn cut) (fun _ => False) := by
  obtain ⟨Z, z1, t1, x1, hs1⟩ := h.box [.int .i64 4, .int .i64 n, .int .u8 (f.toNat : Int), .slice bp b.length bc, .bool lo, .slice kp keep.length kc, .int .i64 torn, .int .i64 cut] 33
  have HZ1 := hid z1
  have HT1 := hid t1
  have HX1 := hid x1
  have HM := hid hm
  have HS1 := hid hs1
  have HBt : Hid (∀ w5 : World, Below w0.heap.size w0 w5 → Bits w5 kp keep) := fun w5 B => hbi.below B
  have HLt : Hid (keep ≠ [] → ∀ b off, kp = some ⟨b, off, none⟩ → b < w0.heap.size) := hbi.lt
  have HKL := hid hkl
  have HKC := hid hkc
  have HMR : Hid (∀ (Z2 : Nat → Prop) (w5 : World), T2 w0.heap.size w0 w5 db rb (d.mended keep torn cut) d Z2 → Calls Try.prog 42 #[.pointer (some ⟨rb, 0, none⟩), .slice kp keep.length kc, .int .i64 torn, .int .i64 cut] w5 fun e w' => e = .returned (.tuple #[]) ∧ T2 w0.heap.size w0 w' db rb (d.mended keep torn cut) (d.mended keep torn cut) Z2) := fun Z2 w5 t =>
    (t.mendR kp keep kc torn cut HM.out (HBt.out w5 t.bel) (fun hem b' off e => Or.inl (HLt.out hem b' off e)) HKC.out).mono (fun _ _ x => ⟨x.1, x.2.1⟩)
  have HLT1 : Hid (w.heap.size < (w.alloc (.cells #[.int .i64 4, .int .i64 n, .int .u8 (f.toNat : Int), .slice bp b.length bc, .bool lo, .slice kp keep.length kc, .int .i64 torn, .int .i64 cut] 33)).heap.size) := HX1.out.lt
  clear h hm hs1 t1 x1 z1 hbi hkl hkc HS1
  go_enter Try.func15, Try.ntmps15
  go_wp2
  generalize (w.alloc (.cells #[.int .i64 4, .int .i64 n, .int .u8 (f.toNat : Int), .slice bp b.length bc, .bool lo, .slice kp keep.length kc, .int .i64 torn, .int .i64 cut] 33)) = w1 at *
  generalize w.heap.size = bx at *
  have HSS : Hid (∀ w5 : World, Blk w5 bx [.int .i64 4, .int .i64 n, .int .u8 (f.toNat : Int), .slice bp b.length bc, .bool lo, .slice kp keep.length kc, .int .i64 torn, .int .i64 cut] 33 → w5.cell? ⟨bx, 5, none⟩ = some (.slice kp keep.length kc) ∧ w5.cell? ⟨bx, 6, none⟩ = some (.int .i64 torn) ∧ w5.cell? ⟨bx, 7, none⟩ = some (.int .i64 cut)) := fun w5 bx => ⟨bx.cell 5, bx.cell 6, bx.cell 7⟩
  have HBa : Hid (Below w1.heap.size w1 (w1.drew.alloc (.cells #[] 4))) := (((Below.refl _ w1).drew).alloc (w := w1.drew) (Nat.le_refl _) _ : Below w1.heap.size w1 (w1.drew.alloc (.cells #[] 4)))
  have HXc : Hid (∀ w5 : World, Below w1.heap.size w1 w5 → Blk w5 bx [.int .i64 4, .int .i64 n, .int .u8 (f.toNat : Int), .slice bp b.length bc, .bool lo, .slice kp keep.length kc, .int .i64 torn, .int .i64 cut] 33) := fun w5 B => HX1.out.below B HX1.out.lt
  have HSa := hid (HSS.out w1 HX1.out)
  have HSb := hid (HSS.out w1.drew HX1.out)
  have HSc := hid (HSS.out _ (HXc.out _ HBa.out))
  have hk0 : 0 < keep.length := List.length_pos_iff.2 hem
  obtain ⟨i0, hi, hz0, hz1, hz2⟩ := info_parts infoBool
  obtain ⟨ad, had, hsrc⟩ := Bits.src (HBt.out _ (HT1.out.grow HBa.out).bel) hk0
  have HO4 : Hid ((w1.drew.alloc (.cells #[] 4)).ownsRow w1.heap.size 4 1 (.slice (some ⟨w1.heap.size, 0, none⟩) 0 0) 0 (kcells [])) := ownK_new w1.drew
  have HF5 : Hid (∀ (g5 c5 : Nat) (w5 : World), w5.ownsRow w1.heap.size 4 1 (.slice (some ⟨g5, 0, none⟩) (0 + keep.length) c5) (0 + keep.length) (kcells [] ++ kcells keep) → (w1.drew.alloc (.cells #[] 4)).grownBy w5 (some w1.heap.size) → (w5.cell? ⟨bx, 5, none⟩ = some (.slice kp keep.length kc) ∧ w5.cell? ⟨bx, 6, none⟩ = some (.int .i64 torn) ∧ w5.cell? ⟨bx, 7, none⟩ = some (.int .i64 cut)) ∧
      Hid (Calls Try.prog 14 #[.pointer (some ⟨db, 0, none⟩), .slice (some ⟨g5, 0, none⟩) keep.length c5, .int .i64 torn, .int .i64 cut] w5 fun e w' => e = .returned (.tuple #[]) ∧ (∃ Z2, T2 w0.heap.size w0 w' db rb (d.mended keep torn cut) d Z2) ∧ (w'.cell? ⟨bx, 5, none⟩ = some (.slice kp keep.length kc) ∧ w'.cell? ⟨bx, 6, none⟩ = some (.int .i64 torn) ∧ w'.cell? ⟨bx, 7, none⟩ = some (.int .i64 cut)))) := by
    intro g5 c5 w5 O5 G5
    rw [Nat.zero_add] at O5
    have B5 : Below w1.heap.size w1 w5 := below_own (v := .slice (some ⟨w1.heap.size, 0, none⟩) 0 0) HBa.out G5 (by simp) (fun k hk => by simp only [Value.ownBlock, Option.some.injEq] at hk; omega)
    have X5 := HXc.out w5 B5
    have T5 := HT1.out.add B5
    refine ⟨HSS.out w5 X5, hid ?_⟩
    have L5 := World.ownsRow.lt O5 g5 rfl
    refine (T5.mendL (some ⟨g5, 0, none⟩) keep c5 torn cut HM.out (own_bits O5 rfl) (fun _ b' off e => ?_)).mono ?_
    · simp only [Option.some.injEq, Addr.mk.injEq] at e
      rw [← e.1]
      exact Or.inr (Or.inr L5)
    · rintro e w6 ⟨he, T6, K6⟩
      exact ⟨he, ⟨_, T6⟩, HSS.out w6 (K6.blk X5 (Or.inr (Or.inl HZ1.out)))⟩
  have HA5 : Hid (0 + keep.length ≤ maxLen) := by have := HKL.out; show _ ≤ _; unfold maxLen; omega
  have HA6 : Hid ((0 + keep.length) * 1 ≤ 140737488355328) := by have := HKL.out; show _ ≤ _; omega
  have HLK : Hid ((kcells keep).length = keep.length * 1) := by show _ = _; rw [kcells_len, Nat.mul_one]
  have HSrc := hid hsrc
  have HK0 := hid hk0
  subst had
  clear HX1 hem hk0 HXc HBt HLt HSS HKL HKC hsrc HT1 HBa
  go_region_held_law (fun w' => w'.cell? ⟨bx, 5, none⟩ = some (.slice (some ad) keep.length kc) ∧ w'.cell? ⟨bx, 6, none⟩ = some (.int .i64 torn) ∧ w'.cell? ⟨bx, 7, none⟩ = some (.int .i64 cut)) (first | exact HSa.out | exact HSb.out | exact HSc.out | exact HS5.out | exact HS6.out)
    (first
      | (go_loud (refine step_append_lies _ rfl _ _ 31 rfl w1.heap.size 4 i0 _ 1 1 Try.underlying31 hi hz0 hz1 hz2 rfl (by decide) _ 0 (kcells []) rfl HO4.out ad keep.length kc (kcells keep) rfl HLK.out HSrc.out (kcells_one keep) HK0.out HA5.out HA6.out (by simp) _ rfl ?_; intro g5 c5 w5 O5 G5 A5 L5; have hf5 := HF5.out g5 c5 w5 O5 G5; obtain ⟨s5, HM5⟩ := hf5; have HS5 := hid s5; clear O5 G5 A5 L5 s5; rw [Nat.zero_add]))
      | (go_at_call 14; go_loud ((with_reducible refine HM5.out.mono ?_); rintro e w6 ⟨rfl, ⟨Z6, T6⟩, s6⟩; have HS6 := hid s6; have HR6 := hid (HMR.out Z6 w6 T6); clear T6 s6 HM5))
      | fail)
  obtain ⟨c5, c6, c7⟩ := HS6.out
  go_wp2_with (first
    | (go_at_call 42; go_loud ((with_reducible refine HR6.out.mono ?_); rintro e w7 ⟨rfl, T7⟩; have HT7 := hid T7; clear T7 HR6))
    | fail)
  go_ret
  exact ⟨rfl, HT7.out.less (fun _ h => h.elim)⟩
end Go.Proofs.Ytfgcjcffplglhaa
