/- The law NodeWrites returns true and writes nothing that was there. Conditions: the node lies within the reach. -/
import Derived.Test.YtilmlegkkgiahaaNdSame
import Derived.Test.YtilmlegkkgiahaaNdOurs
import Derived.Test.YtilmlegkkgiahaaNdREnc
import Derived.Test.YtilmlegkkgiahaaNdEnc
namespace Go.Proofs.Ytilmlegkkgiahaa
open Go.RowKit Go.Lib Go.Sort
set_option linter.unusedVariables false
set_option maxRecDepth 20000

/-- What Encode of the one kind and of the other answer, in one form. -/
def encB (n : Nd) : List UInt8 := if n.err = 0 then n.load else []
def ebUni (n : Nd) (w : World) (e : Ending) (w' : World) : Prop := Below w.heap.size w w' ∧ ∃ v, e = .returned (.tuple #[v, .int .i64 n.err]) ∧ OwnB w' w.heap.size v (encB n)
theorem ebEnd.uni {n : Nd} {w w' : World} {e : Ending} (h : ebEnd n w e w') : ebUni n w e w' := by
  obtain ⟨B, h⟩ := h
  refine ⟨B, ?_⟩
  unfold encB
  rcases h with ⟨h0, v, he, O⟩ | ⟨h0, he⟩
  · rw [if_pos h0, h0]
    exact ⟨v, he, O⟩
  · rw [if_neg h0]
    exact ⟨_, he, own_nil _ _⟩
theorem encB_len (n : Nd) : (encB n).length ≤ 508 := by
  unfold encB
  split
  · rename_i h
    rw [Nd.load_len ((Nd.right_iff n).2 h)]
    exact Nat.le_refl _
  · simp
theorem NV.formed {w : World} {F : Nat → Prop} {cv kv dv : Value} {n : Nd} (h : NV w F cv kv dv n) : ∃ pc cc pk ck pd cd, cv = .slice pc n.cells.length cc ∧ kv = .slice pk n.keys.length ck ∧ dv = .slice pd n.kids.length cd := by
  obtain ⟨⟨pc, cc, h1, _⟩, ⟨pk, ck, h2, _⟩, ⟨pd, cd, h3, _⟩⟩ := h
  exact ⟨pc, cc, pk, ck, pd, cd, h1, h2, h3⟩
set_option maxHeartbeats 8000000 in
theorem nwrites_walk {F : Nat → Prop} (cv kv dv : Value) (n : Nd) (w : World) (h : NV w F cv kv dv n) :
    Calls Try.prog 3 #[.agg #[.bool n.leaf, cv, kv, dv]] w fun e w' => e = .returned (.bool true) ∧ Below w.heap.size w w' := by
  have HN := hid h
  obtain ⟨pc, cc, pk, ck, pd, cd, rfl, rfl, rfl⟩ := h.formed
  have HB0 := hid (alloc_below w (.cells #[.bool n.leaf, .slice pc n.cells.length cc, .slice pk n.keys.length ck, .slice pd n.kids.length cd] 26))
  have HX0 := hid (Bx.new w (.bool n.leaf) (.slice pc n.cells.length cc) (.slice pk n.keys.length ck) (.slice pd n.kids.length cd) 26)
  have HN0 := hid (HN.out.below HB0.out)
  have A1 := hid (its_any _ _ _ n _ HN0.out)
  unfold itEnd at A1
  have A2 := hid (fun w' cv kv dv (G : Nat → Prop) (N : NV w' G cv kv dv n) => (encode_any cv kv dv n w' N).mono (fun e w'' q => ebEnd.uni q))
  have A3 := hid (fun w' (N : NV w' F (.slice pc n.cells.length cc) (.slice pk n.keys.length ck) (.slice pd n.kids.length cd) n) => (rencode_any _ _ _ n w' N).mono (fun e w'' q => ebEnd.uni q))
  unfold ebUni at A2 A3
  have A4 := hid (fun w' cv kv dv (G : Nat → Prop) (N : NV w' G cv kv dv n) => size_any cv kv dv n w' N)
  have A5 := hid (fun w' (N : NV w' F (.slice pc n.cells.length cc) (.slice pk n.keys.length ck) (.slice pd n.kids.length cd) n) => rsize_any _ _ _ n w' N)
  have A6 := hid (fun w' cv kv dv (G : Nat → Prop) (N : NV w' G cv kv dv n) => check_any cv kv dv n w' N)
  have A7 := hid (fun w' (N : NV w' F (.slice pc n.cells.length cc) (.slice pk n.keys.length ck) (.slice pd n.kids.length cd) n) => rcheck_any _ _ _ n w' N)
  have A8 := hid (fun w' cv kv dv (G : Nat → Prop) (N : NV w' G cv kv dv n) => ours_any cv kv dv n w' N)
  unfold itEnd at A8
  have A9 := hid (fun w' cv kv dv (G : Nat → Prop) (N : NV w' G cv kv dv n) (M : NV w' F (.slice pc n.cells.length cc) (.slice pk n.keys.length ck) (.slice pd n.kids.length cd) n) => same_any cv kv dv _ _ _ n n w' N M)
  rw [(sameN_eq n n).2 rfl] at A9
  have HLen := hid (encB_len n)
  clear h
  have her : (n.err != n.err) = false := by simp
  have hsz : (n.sz != n.sz) = false := by simp
  generalize encB n = ld at *
  go_enter Try.func3, Try.ntmps3
  go_upto_region 2 with (first
    | (go_at_call 9; with_reducible refine A1.out.mono ?_; rintro e w1 ⟨cv1, kv1, dv1, rfl, N1, B1⟩; obtain ⟨p1, m1, p2, m2, p3, m3, hv1, hv2, hv3⟩ := N1.formed; subst hv1 hv2 hv3; have HN1 := hid N1; have HB1 := hid B1; clear N1 B1)
    | fail)
  have HBx := hid (alloc_below w1 (.cells #[.bool n.leaf, .slice p1 n.cells.length m1, .slice p2 n.keys.length m2, .slice p3 n.kids.length m3] 29))
  have HX2 := hid (Bx.new w1 (.bool n.leaf) (.slice p1 n.cells.length m1) (.slice p2 n.keys.length m2) (.slice p3 n.kids.length m3) 29)
  have HY2 := hid ((HX0.out.below HB1.out).below HBx.out)
  have HNx := hid (HN1.out.below HBx.out)
  have HNn := hid ((HN0.out.below HB1.out).below HBx.out)
  have HBw := hid (HB0.out.trans ((HB1.out.trans (HBx.out.mono HB1.out.size)).mono HB0.out.size))
  clear A1 HX0 HN0 HN1 HB0 HB1 HN
  generalize hW2 : w1.alloc _ = W2 at *
  clear hW2 HBx
  generalize (w.alloc _).heap.size = base0 at *
  generalize w1.heap.size = xb at *
  obtain ⟨x0, x1, x2, x3⟩ := HX2.out.get
  obtain ⟨y0, y1, y2, y3⟩ := HY2.out.get
  have A2' := hid (A2.out _ _ _ _ _ HNx.out)
  go_wp2_with (first
    | (go_at_call 10; with_reducible refine A2'.out.mono ?_; rintro e w3 ⟨b3, va, rfl, oa⟩; obtain ⟨pa, ca, hva, hca, _⟩ := oa.form; subst hva; obtain ⟨z0, z1, z2, z3⟩ := (HY2.out.below b3).get; have A3' := hid (A3.out w3 (HNn.out.below b3)); have HB3 := hid b3; have HO3 := hid oa; clear b3 oa)
    | (go_at_call 11; with_reducible refine A3'.out.mono ?_; rintro e w4 ⟨b4, vb, rfl, ob⟩; obtain ⟨pb, cb, hvb, _⟩ := ob.form; subst hvb; have HB4 := hid (HB3.out.trans (b4.mono HB3.out.size)); have HO4 := hid (HO3.out.bel b4); have HP4 := hid ob; clear b4 ob)
    | fail)
  clear A2 A3 A2' A3' x0 x1 x2 x3 y0 y1 y2 y3 z0 z1 z2 z3 HO3 HB3
  obtain ⟨x0, x1, x2, x3⟩ := (HX2.out.below HB4.out).get
  obtain ⟨y0, y1, y2, y3⟩ := (HY2.out.below HB4.out).get
  have g0 := cell_regrown x0
  have g1 := cell_regrown x1
  have g2 := cell_regrown x2
  have g3 := cell_regrown x3
  have k0 := cell_regrown y0
  have k1 := cell_regrown y1
  have k2 := cell_regrown y2
  have k3 := cell_regrown y3
  have v1 := conv_reg (HO4.out.bv (Nat.le_trans HLen.out (by decide)))
  have v2 := conv_reg (HP4.out.bv (Nat.le_trans HLen.out (by decide)))
  have C4 : Hid (∀ d os, Calls Try.prog 12 #[.agg #[.bool n.leaf, .slice p1 n.cells.length m1, .slice p2 n.keys.length m2, .slice p3 n.kids.length m3]] (grow (redrawn w4 d) os) fun e w'' => e = .returned (.int .i64 n.sz) ∧ ∃ p : Regrown, w'' = grow (redrawn w4 p.d) p.os) := fun d os => Calls.regrown_of (A4.out _ _ _ _ _ ((HNx.out.below HB4.out).below (below_regrown w4 d os)))
  have C5 : Hid (∀ d os, Calls Try.prog 13 #[.agg #[.bool n.leaf, .slice pc n.cells.length cc, .slice pk n.keys.length ck, .slice pd n.kids.length cd]] (grow (redrawn w4 d) os) fun e w'' => e = .returned (.int .i64 n.sz) ∧ ∃ p : Regrown, w'' = grow (redrawn w4 p.d) p.os) := fun d os => Calls.regrown_of (A5.out _ ((HNn.out.below HB4.out).below (below_regrown w4 d os)))
  have C6 : Hid (∀ d os, Calls Try.prog 14 #[.agg #[.bool n.leaf, .slice p1 n.cells.length m1, .slice p2 n.keys.length m2, .slice p3 n.kids.length m3]] (grow (redrawn w4 d) os) fun e w'' => e = .returned (.int .i64 n.err) ∧ ∃ p : Regrown, w'' = grow (redrawn w4 p.d) p.os) := fun d os => Calls.regrown_of (A6.out _ _ _ _ _ ((HNx.out.below HB4.out).below (below_regrown w4 d os)))
  have C7 : Hid (∀ d os, Calls Try.prog 15 #[.agg #[.bool n.leaf, .slice pc n.cells.length cc, .slice pk n.keys.length ck, .slice pd n.kids.length cd]] (grow (redrawn w4 d) os) fun e w'' => e = .returned (.int .i64 n.err) ∧ ∃ p : Regrown, w'' = grow (redrawn w4 p.d) p.os) := fun d os => Calls.regrown_of (A7.out _ ((HNn.out.below HB4.out).below (below_regrown w4 d os)))
  clear A4 A5 A6 A7 HP4
  refine wp_region_quiet_below (by kernel_rfl) (by kernel_rfl) ?_
  repeat (first | go_big_quiet_step ((first | (go_at_call 12; with_reducible exact C4.out _ _) | (go_at_call 13; with_reducible exact C5.out _ _) | (go_at_call 14; with_reducible exact C6.out _ _) | (go_at_call 15; with_reducible exact C7.out _ _) | fail)) | quiet_step ((first | (go_at_call 12; with_reducible exact C4.out _ _) | (go_at_call 13; with_reducible exact C5.out _ _) | (go_at_call 14; with_reducible exact C6.out _ _) | (go_at_call 15; with_reducible exact C7.out _ _) | fail)))
  refine wpQuiet_nil ?_
  intro _ hw'
  obtain ⟨⟨dq, osq⟩, hw''⟩ := hw'
  subst hw''

  have HB5 := hid (HB4.out.trans ((below_regrown w4 dq osq).mono HB4.out.size))
  have HO5 := hid (HO4.out.bel (below_regrown w4 dq osq))
  clear HB4 HO4 x0 x1 x2 x3 y0 y1 y2 y3 g0 g1 g2 g3 k0 k1 k2 k3 v1 v2 C4 C5 C6 C7
  go_wp2
  generalize grow (redrawn w4 dq) osq = w5 at *
  generalize hL : ld.length = L at *
  have HL := hid hL
  clear hL
  go_loopw [8] (fun i wr => ∃ (k : Nat) (l' : List UInt8), i = .int .i64 (k : Int) ∧ k ≤ L ∧ l'.length = L ∧ OwnB wr W2.heap.size (.slice pa L ca) l' ∧ Below W2.heap.size W2 wr) (fun i _ => L - (RowKit.intOf i).toNat)
  case atStart => exact ⟨0, ld, rfl, Nat.zero_le _, HL.out, HO5.out, HB5.out⟩
  case round =>
    clear HO5 HB5
    obtain ⟨k, l', rfl, hk, hl, hO, hB⟩ := hrel
    have HO := hid hO
    have HB := hid hB
    have HLl := hid hl
    clear hO hB hl
    have hL5 : L ≤ 508 := HLen.out
    by_cases hx : k < L
    · have hkl : k < l'.length := by rw [HLl.out]; exact hx
      obtain ⟨g, cap, hv, hg, _, hc, hset⟩ := HO.out.parts (fun e => by rw [e] at hkl; simp at hkl)
      simp only [Value.slice.injEq] at hv
      obtain ⟨rfl, _, rfl⟩ := hv
      obtain ⟨c0, f0⟩ := hc k hkl
      have hy := UInt8.toNat_lt l'[k]
      have HSet : Hid (∀ z : Int, z = ((l'[k].toNat : Int) + 1) % 256 → OwnB (wr.setCell ⟨g, k, none⟩ (.int .u8 z)) W2.heap.size (.slice (some ⟨g, 0, none⟩) L ca) (l'.set k (UInt8.ofNat ((l'[k].toNat + 1) % 256)))) := fun z hz => by
        have e : (((UInt8.ofNat ((l'[k].toNat + 1) % 256)).toNat : Nat) : Int) = z := by rw [hz]; simp
        rw [← e]
        exact hset k _
      clear hc hset
      generalize l'[k].toNat = y at *
      go_wp2
      go_roundw
      case rel => exact ⟨k + 1, _, by go_num, by omega, by rw [List.length_set]; exact HLl.out, HSet.out _ (by first | rfl | omega), HB.out.setCell (p := ⟨g, k, none⟩) hg _⟩
      case measure => simp [RowKit.intOf]; omega
    · obtain rfl : k = L := by omega
      have B0 : Below wr.heap.size wr wr.drew := (Below.refl _ _).drew
      have HS : Hid (∀ w', Below wr.heap.size wr w' → (w'.cell? ⟨xb, 0, none⟩ = some (.bool n.leaf) ∧ w'.cell? ⟨xb, 1, none⟩ = some (.slice p1 n.cells.length m1) ∧ w'.cell? ⟨xb, 2, none⟩ = some (.slice p2 n.keys.length m2) ∧ w'.cell? ⟨xb, 3, none⟩ = some (.slice p3 n.kids.length m3)) ∧ (w'.cell? ⟨w.heap.size, 0, none⟩ = some (.bool n.leaf) ∧ w'.cell? ⟨w.heap.size, 1, none⟩ = some (.slice pc n.cells.length cc) ∧ w'.cell? ⟨w.heap.size, 2, none⟩ = some (.slice pk n.keys.length ck) ∧ w'.cell? ⟨w.heap.size, 3, none⟩ = some (.slice pd n.kids.length cd))) := fun w' B => ⟨((HX2.out.below HB.out).below B).get, ((HY2.out.below HB.out).below B).get⟩
      have O1 := hid (A8.out wr.drew _ _ _ _ ((HNx.out.below HB.out).below B0))
      have HNn2 := hid (fun w' (B : Below wr.heap.size wr w') => (HNn.out.below HB.out).below B)
      have HBf := hid (HBw.out.trans (HB.out.mono HBw.out.size))
      clear HO A8 HNn HNx HX2 HY2 HB
      go_wp2
      go_region_held_law (fun w' => (w'.cell? ⟨xb, 0, none⟩ = some (.bool n.leaf) ∧ w'.cell? ⟨xb, 1, none⟩ = some (.slice p1 n.cells.length m1) ∧ w'.cell? ⟨xb, 2, none⟩ = some (.slice p2 n.keys.length m2) ∧ w'.cell? ⟨xb, 3, none⟩ = some (.slice p3 n.kids.length m3)) ∧ (w'.cell? ⟨w.heap.size, 0, none⟩ = some (.bool n.leaf) ∧ w'.cell? ⟨w.heap.size, 1, none⟩ = some (.slice pc n.cells.length cc) ∧ w'.cell? ⟨w.heap.size, 2, none⟩ = some (.slice pk n.keys.length ck) ∧ w'.cell? ⟨w.heap.size, 3, none⟩ = some (.slice pd n.kids.length cd))) (with_reducible first | exact HS.out _ B0 | exact HS.out _ B6 | exact HS.out _ B7)
        (first
          | (go_at_call 17; with_reducible refine O1.out.mono ?_; rintro e w6 ⟨cv6, kv6, dv6, rfl, N6, b6⟩; have B6 := B0.trans (b6.mono B0.size); have O2 := hid (A9.out w6 _ _ _ _ N6 (HNn2.out w6 B6)); obtain ⟨q1, r1, q2, r2, q3, r3, hv1, hv2, hv3⟩ := N6.formed; subst hv1 hv2 hv3; clear N6 b6)
          | (go_at_call 16; with_reducible refine O2.out.mono ?_; rintro e w7 ⟨rfl, b7⟩; have B7 := B6.trans (b7.mono B6.size); clear b7)
          | fail)
      go_wp2
      go_ret
      exact ⟨rfl, HBf.out.trans (B7.mono HBf.out.size)⟩
end Go.Proofs.Ytilmlegkkgiahaa
