/- What the document's fields does at a leaf. Conditions: the node lies within the reach. -/
import Derived.Test.YtilmlegkkgiahaaNdRight
import Derived.Laws.Cover1
namespace Go.Proofs.Ytilmlegkkgiahaa
open Go.RowKit Go.Lib Go.Sort
set_option linter.unusedVariables false
set_option maxRecDepth 20000

theorem le_true {a b : List UInt8} (h : ltB a b = false) : (Op.bytesLess b a || b == a) = true := by rw [le_ltB, h]; rfl
theorem le_false {a b : List UInt8} (h : ltB a b = true) : (Op.bytesLess b a || b == a) = false := by rw [le_ltB, h]; rfl
set_option maxHeartbeats 8000000 in
theorem rfields_leaf {F : Nat → Prop} (cv kv dv : Value) (n : Nd) (w : World) (h : NV w F cv kv dv n) (hl : n.leaf = true) :
    Calls Try.prog 34 #[.agg #[.bool true, cv, kv, dv]] w fun e w' => e = .returned (.bool n.lf) ∧ Below w.heap.size w w' := by
  obtain ⟨⟨pc, cc, rfl, hC, _, _, hlc⟩, ⟨pk, ck, rfl, hK, _, _, hlk⟩, ⟨pd, cd, rfl, hD, _, _, hld, _⟩⟩ := h
  have HC := hid hC
  have HQ : Hid (n.lf = (!n.cells.isEmpty && (n.keys.isEmpty && (n.kids.isEmpty && (n.cells.all Cl.ok && rises (n.cells.map Cl.key)))))) := rfl
  clear hC hK hD hl
  generalize n.lf = q at *
  by_cases e1 : n.cells.length = 0
  · obtain rfl : q = false := by rw [HQ.out, isEmpty_true e1]; rfl
    rw [e1]
    clear HQ HC
    go_enter Try.func34, Try.ntmps34
    go_wp2
    go_ret
    exact ⟨rfl, alloc_below _ _⟩
  have E1 := hid (isEmpty_false (l := n.cells) (by omega))
  have e1b : ((n.cells.length : Int) == 0) = false := beq_eq_false_iff_ne.2 (by omega)
  by_cases e2 : 0 < n.keys.length
  · obtain rfl : q = false := by rw [HQ.out, isEmpty_false e2]; simp
    clear HQ HC
    generalize n.cells.length = L at *
    generalize n.keys.length = L2 at *
    go_enter Try.func34, Try.ntmps34
    go_wp2
    go_ret
    exact ⟨rfl, alloc_below _ _⟩
  have e2z : n.keys.length = 0 := by omega
  have E2 := hid (isEmpty_true e2z)
  rw [e2z]
  by_cases e3 : 0 < n.kids.length
  · obtain rfl : q = false := by rw [HQ.out, isEmpty_false e3]; simp
    clear HQ HC
    generalize n.cells.length = L at *
    generalize n.kids.length = L2 at *
    go_enter Try.func34, Try.ntmps34
    go_wp2
    go_ret
    exact ⟨rfl, alloc_below _ _⟩
  have e3z : n.kids.length = 0 := by omega
  have E3 := hid (isEmpty_true e3z)
  rw [e3z]
  have HQ2 : Hid (q = (n.cells.all Cl.ok && rises (n.cells.map Cl.key))) := by show _ = _; rw [HQ.out, E1.out, E2.out, E3.out]; rfl
  clear HQ E1 E2 E3 e2z e3z e2 e3
  generalize n.cells = l at *
  go_enter Try.func34, Try.ntmps34
  go_wp2
  have HB0 := hid (alloc_below w (.cells #[.bool true, .slice pc l.length cc, .slice pk 0 ck, .slice pd 0 cd] 26))
  generalize hW : w.alloc _ = W at *
  have HC2 : Hid (Cls W F pc l) := HC.out.kp (Kp.of_below HB0.out)
  have HX : Hid (∀ w', Below W.heap.size W w' → w'.cell? ⟨w.heap.size, 1, none⟩ = some (.slice pc l.length cc)) := by subst hW; exact fun w' B => (box4 B).2.1
  have HS : Hid (w.heap.size ≤ W.heap.size) := HB0.out.size
  clear hW
  go_loopw [3] (fun i wr => ∃ k : Nat, i = .int .i64 (k : Int) ∧ k ≤ l.length ∧ gTo Cl.ok Cl.key l k = true ∧ Below W.heap.size W wr) (fun i _ => l.length - (RowKit.intOf i).toNat)
  case atStart => exact ⟨0, rfl, Nat.zero_le _, gTo_zero _ _ _, Below.refl _ _⟩
  case round =>
    obtain ⟨k, rfl, hk, hT, hB⟩ := hrel
    have HT := hid hT
    have HB := hid hB
    clear hT hB
    have x1 := HX.out _ HB.out
    by_cases hx : k < l.length
    · obtain ⟨g, off, p1, c1, p2, c2, rfl, c10, c11, c12, c13, b1, b2, _⟩ := (HC2.out.kp (Kp.of_below HB.out)).get hx
      obtain ⟨hb1, _, _, y1, _⟩ := b1.len
      obtain ⟨hb2, _⟩ := b2.len
      have R := hid (fun w => rcell_any p1 p2 c1 c2 l[k] w hb1 hb2)
      have gx1 := cell_regrown x1
      have q0 := cell_regrown c10
      have q1 := cell_regrown c11
      have q2 := cell_regrown c12
      have q3 := cell_regrown c13
      have v1 := conv_reg b1
      have C1 : Hid (∀ d os, Calls Try.prog 52 #[.agg #[.slice p1 l[k].key.length c1, .slice p2 l[k].val.length c2, .int .i64 l[k].over, .int .i64 l[k].size]] (grow (redrawn wr d) os) fun e w'' => e = .returned (.bool l[k].ok) ∧ ∃ p : Regrown, w'' = grow (redrawn wr p.d) p.os) := fun d os => Calls.regrown_of (R.out _)
      have HG1 := hid (gTo_one (f := Cl.ok) (g := Cl.key) (l := l) (by omega))
      clear b1 b2 y1 R
      cases hok : l[k].ok
      · rw [hok] at C1
        have HF : Hid (q = false) := by
          show _ = _
          rw [HQ2.out]
          rcases Nat.eq_zero_or_pos k with rfl | hp
          · exact gTo_bad (k := 1) (by rw [HG1.out]; exact hok)
          · obtain ⟨j, rfl⟩ : ∃ j, k = j + 1 := ⟨k - 1, by omega⟩
            exact gTo_bad (k := j + 2) (by rw [gTo_succ hx, hok]; simp)
        clear HG1 HT hok
        go_wp2
        refine wp_region_quiet_below (by kernel_rfl) (by kernel_rfl) ?_
        repeat (first | go_big_quiet_step ((first | (go_at_call 52; with_reducible exact C1.out _ _) | fail)) | quiet_step ((first | (go_at_call 52; with_reducible exact C1.out _ _) | fail)))
        refine wpQuiet_nil ?_
        intro _ hw'
        obtain ⟨⟨dq, osq⟩, hw''⟩ := hw'
        subst hw''
        go_wp2
        go_ret
        exact ⟨by rw [HF.out]; rfl, HB0.out.trans ((HB.out.trans ((below_regrown wr dq osq).mono HB.out.size)).mono HS.out)⟩
      · rw [hok] at C1
        rcases Nat.eq_zero_or_pos k with rfl | hp
        · have HG2 : Hid (gTo Cl.ok Cl.key l 1 = true) := by show _ = _; rw [HG1.out]; exact hok
          clear HG1 HT hok
          simp only [Nat.zero_mul, Nat.add_zero] at c10 c11 c12 c13 q0 q1 q2 q3
          go_wp2
          refine wp_region_quiet_below (by kernel_rfl) (by kernel_rfl) ?_
          repeat (first | go_big_quiet_step ((first | (go_at_call 52; with_reducible exact C1.out _ _) | fail)) | quiet_step ((first | (go_at_call 52; with_reducible exact C1.out _ _) | fail)))
          refine wpQuiet_nil ?_
          intro _ hw'
          obtain ⟨⟨dq, osq⟩, hw''⟩ := hw'
          subst hw''
          go_wp2
          go_roundw
          case rel => exact ⟨1, by go_num, by omega, HG2.out, HB.out.trans ((below_regrown wr dq osq).mono HB.out.size)⟩
          case measure => simp [RowKit.intOf]; omega
        · obtain ⟨j, rfl⟩ : ∃ j, k = j + 1 := ⟨k - 1, by omega⟩
          obtain ⟨g', off', p3, c3, p4, c4, hge, d10, _, _, _, b3, _⟩ := (HC2.out.kp (Kp.of_below HB.out)).get (i := j) (by omega)
          simp only [Option.some.injEq, Addr.mk.injEq, and_true] at hge
          obtain ⟨rfl, rfl⟩ := hge
          have gd := cell_regrown d10
          have v3 := conv_reg b3
          have hs1 : ((j + 1 : Nat) : Int) - 1 = (j : Int) := by omega
          have HG2 := hid (gTo_succ (f := Cl.ok) (g := Cl.key) hx)
          clear b3 HG1
          cases hlt : ltB l[j].key l[j + 1].key
          · have HF : Hid (q = false) := by show _ = _; rw [HQ2.out]; exact gTo_bad (k := j + 2) (by rw [HG2.out, hlt]; simp)
            have hle := le_true hlt
            clear HG2 HT hok hlt
            go_wp2
            refine wp_region_quiet_below (by kernel_rfl) (by kernel_rfl) ?_
            repeat (first | go_big_quiet_step ((first | (go_at_call 52; with_reducible exact C1.out _ _) | fail)) | quiet_step ((first | (go_at_call 52; with_reducible exact C1.out _ _) | fail)))
            refine wpQuiet_nil ?_
            intro _ hw'
            obtain ⟨⟨dq, osq⟩, hw''⟩ := hw'
            subst hw''
            go_wp2
            go_ret
            exact ⟨by rw [HF.out]; rfl, HB0.out.trans ((HB.out.trans ((below_regrown wr dq osq).mono HB.out.size)).mono HS.out)⟩
          · have HG3 : Hid (gTo Cl.ok Cl.key l (j + 1 + 1) = true) := by show _ = _; rw [HG2.out, HT.out, hok, hlt]; rfl
            have hle := le_false hlt
            clear HG2 HT hok hlt
            go_wp2
            refine wp_region_quiet_below (by kernel_rfl) (by kernel_rfl) ?_
            repeat (first | go_big_quiet_step ((first | (go_at_call 52; with_reducible exact C1.out _ _) | fail)) | quiet_step ((first | (go_at_call 52; with_reducible exact C1.out _ _) | fail)))
            refine wpQuiet_nil ?_
            intro _ hw'
            obtain ⟨⟨dq, osq⟩, hw''⟩ := hw'
            subst hw''
            go_wp2
            go_roundw
            case rel => exact ⟨j + 1 + 1, by go_num, by omega, HG3.out, HB.out.trans ((below_regrown wr dq osq).mono HB.out.size)⟩
            case measure => simp [RowKit.intOf]; omega
    · obtain rfl : k = l.length := by omega
      have HF : Hid (q = true) := by show _ = _; rw [HQ2.out, ← gTo_full]; exact HT.out
      clear HT
      go_wp2
      go_ret
      exact ⟨by rw [HF.out]; rfl, HB0.out.trans (HB.out.mono HS.out)⟩
end Go.Proofs.Ytilmlegkkgiahaa
