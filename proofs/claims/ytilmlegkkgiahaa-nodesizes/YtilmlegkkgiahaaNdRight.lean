/- What rightLeaf, rightInner and Check of package node do. Conditions: the node lies within the reach. -/
import Derived.Test.YtilmlegkkgiahaaNdSize
namespace Go.Proofs.Ytilmlegkkgiahaa
open Go.RowKit Go.Lib Go.Sort
set_option linter.unusedVariables false
set_option maxRecDepth 20000

theorem box4 {w w' : World} {a b c d : Value} {t : TypeId} (B : Below (w.alloc (.cells #[a, b, c, d] t)).heap.size (w.alloc (.cells #[a, b, c, d] t)) w') : w'.cell? ⟨w.heap.size, 0, none⟩ = some a ∧ w'.cell? ⟨w.heap.size, 1, none⟩ = some b ∧ w'.cell? ⟨w.heap.size, 2, none⟩ = some c ∧ w'.cell? ⟨w.heap.size, 3, none⟩ = some d :=
  ⟨below_cell B (by go_simp), below_cell B (by go_simp), below_cell B (by go_simp), below_cell B (by go_simp)⟩
theorem isEmpty_false {α : Type} {l : List α} (h : 0 < l.length) : l.isEmpty = false := by cases l <;> simp_all
theorem isEmpty_true {α : Type} {l : List α} (h : l.length = 0) : l.isEmpty = true := by cases l <;> simp_all

set_option maxHeartbeats 4000000 in
theorem rightLeaf_any {F : Nat → Prop} (b : Bool) (cv kv dv : Value) (n : Nd) (w : World) (h : NV w F cv kv dv n) :
    Calls Try.prog 32 #[.agg #[.bool b, cv, kv, dv]] w fun e w' => e = .returned (.bool n.lf) ∧ Below w.heap.size w w' := by
  obtain ⟨⟨pc, cc, rfl, hC, _, _, hlc⟩, ⟨pk, ck, rfl, hK, _, _, hlk⟩, ⟨pd, cd, rfl, hD, _, _, hld, _⟩⟩ := h
  have HC := hid hC
  have HQ : Hid (n.lf = (!n.cells.isEmpty && (n.keys.isEmpty && (n.kids.isEmpty && (n.cells.all Cl.ok && rises (n.cells.map Cl.key)))))) := rfl
  clear hC hK hD
  generalize n.lf = q at *
  by_cases e1 : n.cells.length = 0
  · obtain rfl : q = false := by rw [HQ.out, isEmpty_true e1]; rfl
    rw [e1]
    clear HQ HC
    go_enter Try.func32, Try.ntmps32
    go_wp2
    go_ret
    exact ⟨rfl, alloc_below _ _⟩
  have E1 := hid (isEmpty_false (l := n.cells) (by omega))
  have e1b : ((n.cells.length : Int) == 0) = false := beq_eq_false_iff_ne.2 (by omega)
  by_cases e2 : 0 < n.keys.length
  · obtain rfl : q = false := by rw [HQ.out, isEmpty_false e2]; simp
    clear HQ HC
    generalize n.cells.length = L at *
    generalize n.keys.length = L2 at *
    go_enter Try.func32, Try.ntmps32
    go_wp2
    go_ret
    exact ⟨rfl, alloc_below _ _⟩
  have e2z : n.keys.length = 0 := by omega
  have E2 := hid (isEmpty_true e2z)
  rw [e2z]
  by_cases e3 : 0 < n.kids.length
  · obtain rfl : q = false := by rw [HQ.out, isEmpty_false e3]; simp
    clear HQ HC
    generalize n.cells.length = L at *
    generalize n.kids.length = L2 at *
    go_enter Try.func32, Try.ntmps32
    go_wp2
    go_ret
    exact ⟨rfl, alloc_below _ _⟩
  have e3z : n.kids.length = 0 := by omega
  have E3 := hid (isEmpty_true e3z)
  rw [e3z]
  have HQ2 : Hid (q = (n.cells.all Cl.ok && rises (n.cells.map Cl.key))) := by show _ = _; rw [HQ.out, E1.out, E2.out, E3.out]; rfl
  clear HQ E1 E2 E3 e2z e3z e2 e3
  generalize n.cells = l at *
  go_enter Try.func32, Try.ntmps32
  go_wp2
  have HB0 := hid (alloc_below w (.cells #[.bool b, .slice pc l.length cc, .slice pk 0 ck, .slice pd 0 cd] 29))
  generalize hW : w.alloc _ = W at *
  have HC2 : Hid (Cls W F pc l) := HC.out.kp (Kp.of_below HB0.out)
  have HX : Hid (∀ w', Below W.heap.size W w' → w'.cell? ⟨w.heap.size, 1, none⟩ = some (.slice pc l.length cc)) := by subst hW; exact fun w' B => (box4 B).2.1
  have HS : Hid (w.heap.size ≤ W.heap.size) := HB0.out.size
  clear hW
  go_loopw [24] (fun i wr => ∃ k : Nat, i = .int .i64 (k : Int) ∧ k ≤ l.length ∧ gTo Cl.ok Cl.key l k = true ∧ Below W.heap.size W wr) (fun i _ => l.length - (RowKit.intOf i).toNat)
  case atStart => exact ⟨0, rfl, Nat.zero_le _, gTo_zero _ _ _, Below.refl _ _⟩
  case round =>
    obtain ⟨k, rfl, hk, hT, hB⟩ := hrel
    have HT := hid hT
    have HB := hid hB
    clear hT hB
    by_cases hx : k < l.length
    · obtain ⟨g, off, p1, c1, p2, c2, rfl, c10, c11, c12, c13, b1, b2, _⟩ := (HC2.out.kp (Kp.of_below HB.out)).get hx
      obtain ⟨hb1, _, _, y1, _⟩ := b1.len
      obtain ⟨hb2, _⟩ := b2.len
      have R := hid (fun w => rightCell_any p1 p2 c1 c2 l[k] w hb1 hb2)
      have x1 := HX.out _ HB.out
      have x1' := HX.out _ (HB.out.trans ((alloc_below wr (.cells #[.slice p1 l[k].key.length c1, .slice p2 l[k].val.length c2, .int .i64 l[k].over, .int .i64 l[k].size] 58)).mono HB.out.size))
      have gx1 := cell_regrown x1'
      have h0 : (wr.alloc (.cells #[.slice p1 l[k].key.length c1, .slice p2 l[k].val.length c2, .int .i64 l[k].over, .int .i64 l[k].size] 58)).cell? ⟨wr.heap.size, 0, none⟩ = some (.slice p1 l[k].key.length c1) := by go_simp
      have h1 : (wr.alloc (.cells #[.slice p1 l[k].key.length c1, .slice p2 l[k].val.length c2, .int .i64 l[k].over, .int .i64 l[k].size] 58)).cell? ⟨wr.heap.size, 1, none⟩ = some (.slice p2 l[k].val.length c2) := by go_simp
      have h2 : (wr.alloc (.cells #[.slice p1 l[k].key.length c1, .slice p2 l[k].val.length c2, .int .i64 l[k].over, .int .i64 l[k].size] 58)).cell? ⟨wr.heap.size, 2, none⟩ = some (.int .i64 l[k].over) := by go_simp
      have h3 : (wr.alloc (.cells #[.slice p1 l[k].key.length c1, .slice p2 l[k].val.length c2, .int .i64 l[k].over, .int .i64 l[k].size] 58)).cell? ⟨wr.heap.size, 3, none⟩ = some (.int .i64 l[k].size) := by go_simp
      have q0 := cell_regrown h0
      have q1 := cell_regrown h1
      have q2 := cell_regrown h2
      have q3 := cell_regrown h3
      have HB2 := hid (alloc_below wr (.cells #[.slice p1 l[k].key.length c1, .slice p2 l[k].val.length c2, .int .i64 l[k].over, .int .i64 l[k].size] 58))
      have C1 : Hid (∀ d os, Calls Try.prog 49 #[.agg #[.slice p1 l[k].key.length c1, .slice p2 l[k].val.length c2, .int .i64 l[k].over, .int .i64 l[k].size]] (grow (redrawn (wr.alloc (.cells #[.slice p1 l[k].key.length c1, .slice p2 l[k].val.length c2, .int .i64 l[k].over, .int .i64 l[k].size] 58)) d) os) fun e w'' => e = .returned (.bool l[k].ok) ∧ ∃ p : Regrown, w'' = grow (redrawn (wr.alloc (.cells #[.slice p1 l[k].key.length c1, .slice p2 l[k].val.length c2, .int .i64 l[k].over, .int .i64 l[k].size] 58)) p.d) p.os) := fun d os => Calls.regrown_of (R.out _)
      have y2 := y1.kp (Kp.of_below HB2.out)
      have HG1 := hid (gTo_one (f := Cl.ok) (g := Cl.key) (l := l) (by omega))
      clear b1 b2 y1 R h0 h1 h2 h3 x1'
      cases hok : l[k].ok
      · rw [hok] at C1
        have HF : Hid (q = false) := by
          show _ = _
          rw [HQ2.out]
          rcases Nat.eq_zero_or_pos k with rfl | hp
          · exact gTo_bad (k := 1) (by rw [HG1.out]; exact hok)
          · obtain ⟨j, rfl⟩ : ∃ j, k = j + 1 := ⟨k - 1, by omega⟩
            exact gTo_bad (k := j + 2) (by rw [gTo_succ hx, hok]; simp)
        clear HG1 HT hok y2
        go_wp2
        generalize hV : wr.alloc _ = V at *
        refine wp_region_quiet_below (by kernel_rfl) (by kernel_rfl) ?_
        repeat (first | go_big_quiet_step ((first | (go_at_call 49; with_reducible exact C1.out _ _) | fail)) | quiet_step ((first | (go_at_call 49; with_reducible exact C1.out _ _) | fail)))
        refine wpQuiet_nil ?_
        intro _ hw'
        obtain ⟨⟨dq, osq⟩, hw''⟩ := hw'
        subst hw''
        go_wp2
        go_ret
        exact ⟨by rw [HF.out]; rfl, HB0.out.trans ((HB.out.trans ((HB2.out.trans ((below_regrown V dq osq).mono HB2.out.size)).mono HB.out.size)).mono HS.out)⟩
      · rw [hok] at C1
        rcases Nat.eq_zero_or_pos k with rfl | hp
        · have HG2 : Hid (gTo Cl.ok Cl.key l 1 = true) := by show _ = _; rw [HG1.out]; exact hok
          clear HG1 HT hok y2
          simp only [Nat.zero_mul, Nat.add_zero] at c10 c11 c12 c13
          go_wp2
          generalize hV : wr.alloc _ = V at *
          refine wp_region_quiet_below (by kernel_rfl) (by kernel_rfl) ?_
          repeat (first | go_big_quiet_step ((first | (go_at_call 49; with_reducible exact C1.out _ _) | fail)) | quiet_step ((first | (go_at_call 49; with_reducible exact C1.out _ _) | fail)))
          refine wpQuiet_nil ?_
          intro _ hw'
          obtain ⟨⟨dq, osq⟩, hw''⟩ := hw'
          subst hw''
          go_wp2
          go_roundw
          case rel => exact ⟨1, by go_num, by omega, HG2.out, HB.out.trans ((HB2.out.trans ((below_regrown V dq osq).mono HB2.out.size)).mono HB.out.size)⟩
          case measure => simp [RowKit.intOf]; omega
        · obtain ⟨j, rfl⟩ : ∃ j, k = j + 1 := ⟨k - 1, by omega⟩
          obtain ⟨g', off', p3, c3, p4, c4, hge, d10, _, _, _, b3, _⟩ := (HC2.out.kp (Kp.of_below HB.out)).get (i := j) (by omega)
          simp only [Option.some.injEq, Addr.mk.injEq, and_true] at hge
          obtain ⟨rfl, rfl⟩ := hge
          have gd := cell_regrown (below_cell HB2.out d10)
          obtain ⟨hb3, _, _, y3, _⟩ := b3.len
          have y4 := y3.kp (Kp.of_below HB2.out)
          have hs1 : ((j + 1 : Nat) : Int) - 1 = (j : Int) := by omega
          have HR : Hid (∀ d os, Calls Try.prog 50 #[.slice p3 l[j].key.length c3, .slice p1 l[j + 1].key.length c1] (grow (redrawn (wr.alloc (.cells #[.slice p1 l[j + 1].key.length c1, .slice p2 l[j + 1].val.length c2, .int .i64 l[j + 1].over, .int .i64 l[j + 1].size] 58)) d) os) fun e w'' => e = .returned (.bool (ltB l[j].key l[j + 1].key)) ∧ ∃ p : Regrown, w'' = grow (redrawn (wr.alloc (.cells #[.slice p1 l[j + 1].key.length c1, .slice p2 l[j + 1].val.length c2, .int .i64 l[j + 1].over, .int .i64 l[j + 1].size] 58)) p.d) p.os) :=
            fun d os => Calls.regrown_of ((rises_any p3 p1 _ _ c3 c1 _ (y4.below (below_regrown _ d os)) (y2.below (below_regrown _ d os))).mono (by rintro e w' ⟨he, rfl⟩; exact ⟨he, Below.refl _ _⟩))
          have HG2 := hid (gTo_succ (f := Cl.ok) (g := Cl.key) hx)
          clear b3 y3 y4 y2 HG1
          cases hlt : ltB l[j].key l[j + 1].key
          · have HF : Hid (q = false) := by show _ = _; rw [HQ2.out]; exact gTo_bad (k := j + 2) (by rw [HG2.out, hlt]; simp)
            rw [hlt] at HR
            clear HG2 HT hok hlt
            go_wp2
            generalize hV : wr.alloc _ = V at *
            refine wp_region_quiet_below (by kernel_rfl) (by kernel_rfl) ?_
            repeat (first | go_big_quiet_step ((first | (go_at_call 49; with_reducible exact C1.out _ _) | (go_at_call 50; with_reducible exact HR.out _ _) | fail)) | quiet_step ((first | (go_at_call 49; with_reducible exact C1.out _ _) | (go_at_call 50; with_reducible exact HR.out _ _) | fail)))
            refine wpQuiet_nil ?_
            intro _ hw'
            obtain ⟨⟨dq, osq⟩, hw''⟩ := hw'
            subst hw''
            go_wp2
            go_ret
            exact ⟨by rw [HF.out]; rfl, HB0.out.trans ((HB.out.trans ((HB2.out.trans ((below_regrown V dq osq).mono HB2.out.size)).mono HB.out.size)).mono HS.out)⟩
          · have HG3 : Hid (gTo Cl.ok Cl.key l (j + 1 + 1) = true) := by show _ = _; rw [HG2.out, HT.out, hok, hlt]; rfl
            rw [hlt] at HR
            clear HG2 HT hok hlt
            go_wp2
            generalize hV : wr.alloc _ = V at *
            refine wp_region_quiet_below (by kernel_rfl) (by kernel_rfl) ?_
            repeat (first | go_big_quiet_step ((first | (go_at_call 49; with_reducible exact C1.out _ _) | (go_at_call 50; with_reducible exact HR.out _ _) | fail)) | quiet_step ((first | (go_at_call 49; with_reducible exact C1.out _ _) | (go_at_call 50; with_reducible exact HR.out _ _) | fail)))
            refine wpQuiet_nil ?_
            intro _ hw'
            obtain ⟨⟨dq, osq⟩, hw''⟩ := hw'
            subst hw''
            go_wp2
            go_roundw
            case rel => exact ⟨j + 1 + 1, by go_num, by omega, HG3.out, HB.out.trans ((HB2.out.trans ((below_regrown V dq osq).mono HB2.out.size)).mono HB.out.size)⟩
            case measure => simp [RowKit.intOf]; omega
    · obtain rfl : k = l.length := by omega
      have HF : Hid (q = true) := by show _ = _; rw [HQ2.out, ← gTo_full]; exact HT.out
      clear HT
      go_wp2
      go_ret
      exact ⟨by rw [HF.out]; rfl, HB0.out.trans (HB.out.mono HS.out)⟩

set_option maxHeartbeats 4000000 in
theorem rightInner_any {F : Nat → Prop} (b : Bool) (cv kv dv : Value) (n : Nd) (w : World) (h : NV w F cv kv dv n) :
    Calls Try.prog 33 #[.agg #[.bool b, cv, kv, dv]] w fun e w' => e = .returned (.bool n.inn) ∧ Below w.heap.size w w' := by
  obtain ⟨⟨pc, cc, rfl, hC, _, _, hlc⟩, ⟨pk, ck, rfl, hK, _, _, hlk⟩, ⟨pd, cd, rfl, hD, _, _, hld, _⟩⟩ := h
  have HK := hid hK
  have HD := hid hD
  have HQ : Hid (n.inn = (!n.keys.isEmpty && (n.cells.isEmpty && (decide (n.kids.length = n.keys.length + 1) && ((n.keys.all kOk && rises (n.keys.map id)) && n.kids.all isPage))))) := rfl
  clear hC hK hD
  generalize n.inn = q at *
  by_cases e1 : n.keys.length = 0
  · obtain rfl : q = false := by rw [HQ.out, isEmpty_true e1]; rfl
    rw [e1]
    clear HQ HK HD
    go_enter Try.func33, Try.ntmps33
    go_wp2
    go_ret
    exact ⟨rfl, alloc_below _ _⟩
  have E1 := hid (isEmpty_false (l := n.keys) (by omega))
  have e1b : ((n.keys.length : Int) == 0) = false := beq_eq_false_iff_ne.2 (by omega)
  by_cases e2 : n.kids.length = n.keys.length + 1
  case neg =>
    obtain rfl : q = false := by rw [HQ.out, decide_eq_false e2]; simp
    clear HQ HK HD E1
    generalize n.kids.length = D at *
    generalize n.keys.length = L at *
    have e2b : ((D : Int) == (L : Int) + 1) = false := beq_eq_false_iff_ne.2 (by omega)
    go_enter Try.func33, Try.ntmps33
    go_wp2
    go_ret
    exact ⟨rfl, alloc_below _ _⟩
  have E2 := hid (decide_eq_true e2)
  have HDl := hid e2
  by_cases e3 : 0 < n.cells.length
  · obtain rfl : q = false := by rw [HQ.out, isEmpty_false e3]; simp
    clear HQ HK HD E1 E2 HDl
    rw [e2]
    generalize n.cells.length = L2 at *
    generalize n.keys.length = L at *
    clear e2
    go_enter Try.func33, Try.ntmps33
    go_wp2
    go_ret
    exact ⟨rfl, alloc_below _ _⟩
  have e3z : n.cells.length = 0 := by omega
  have E3 := hid (isEmpty_true e3z)
  rw [e3z]
  have HQ2 : Hid (q = ((n.keys.all kOk && rises (n.keys.map id)) && n.kids.all isPage)) := by show _ = _; rw [HQ.out, E1.out, E2.out, E3.out]; rfl
  clear HQ E1 E2 E3 e3z e3
  rw [e2]
  generalize n.keys = l at *
  generalize n.kids = m at *
  clear e2
  go_enter Try.func33, Try.ntmps33
  go_wp2
  have HB0 := hid (alloc_below w (.cells #[.bool b, .slice pc 0 cc, .slice pk l.length ck, .slice pd (l.length + 1) cd] 29))
  generalize hW : w.alloc _ = W at *
  have HK2 : Hid (Kys W F pk l) := HK.out.kp (Kp.of_below HB0.out)
  have HD2 : Hid (Kds W F pd m) := HD.out.kp (Kp.of_below HB0.out)
  have x2 : W.cell? ⟨w.heap.size, 2, none⟩ = some (.slice pk l.length ck) := by subst hW; go_simp
  have x3 : W.cell? ⟨w.heap.size, 3, none⟩ = some (.slice pd (l.length + 1) cd) := by subst hW; go_simp
  have HS : Hid (w.heap.size ≤ W.heap.size) := HB0.out.size
  clear hW HK HD
  go_loopw [30] (fun i wr => ∃ k : Nat, i = .int .i64 (k : Int) ∧ k ≤ l.length ∧ gTo kOk id l k = true ∧ wr = W) (fun i _ => l.length - (RowKit.intOf i).toNat)
  case atStart => exact ⟨0, rfl, Nat.zero_le _, gTo_zero _ _ _, rfl⟩
  case round =>
    obtain ⟨k, rfl, hk, hT, rfl⟩ := hrel
    have HT := hid hT
    clear hT
    by_cases hx : k < l.length
    · obtain ⟨g, off, p1, c1, rfl, c10, b1, _⟩ := HK2.out.get hx
      obtain ⟨hb1, _, _, y1, _⟩ := b1.len
      have HG1 := hid (gTo_one (f := kOk) (g := id) (l := l) (by omega))
      clear b1
      by_cases hok : l[k].length ≤ 128
      case neg =>
        have hokf : kOk l[k] = false := decide_eq_false hok
        have HF : Hid (q = false) := by
          show _ = _
          rw [HQ2.out]
          have : (l.all kOk && rises (l.map id)) = false := by
            rcases Nat.eq_zero_or_pos k with rfl | hp
            · exact gTo_bad (k := 1) (by rw [HG1.out]; exact hokf)
            · obtain ⟨j, rfl⟩ : ∃ j, k = j + 1 := ⟨k - 1, by omega⟩
              exact gTo_bad (k := j + 2) (by rw [gTo_succ hx, hokf]; simp)
          rw [this]
          rfl
        clear HG1 HT hokf y1
        generalize l[k].length = K at *
        go_wp2
        go_ret
        exact ⟨by rw [HF.out]; rfl, HB0.out⟩
      have hokt : kOk l[k] = true := decide_eq_true hok
      rcases Nat.eq_zero_or_pos k with rfl | hp
      · have HG2 : Hid (gTo kOk id l 1 = true) := by show _ = _; rw [HG1.out]; exact hokt
        clear HG1 HT hokt y1
        simp only [Nat.add_zero] at c10
        generalize l[0].length = K at *
        go_wp2
        go_roundw
        case rel => exact ⟨1, by go_num, by omega, HG2.out, trivial⟩
        case measure => simp [RowKit.intOf]; omega
      · obtain ⟨j, rfl⟩ : ∃ j, k = j + 1 := ⟨k - 1, by omega⟩
        obtain ⟨g', off', p3, c3, hge, d10, b3, _⟩ := HK2.out.get (i := j) (by omega)
        simp only [Option.some.injEq, Addr.mk.injEq, and_true] at hge
        obtain ⟨rfl, rfl⟩ := hge
        obtain ⟨hb3, _, _, y3, _⟩ := b3.len
        have hs1 : ((j + 1 : Nat) : Int) - 1 = (j : Int) := by omega
        have HR := hid (rises_any p3 p1 _ _ c3 c1 _ y3 y1)
        have HG2 := hid (gTo_succ (f := kOk) (g := id) hx)
        clear b3 y3 y1 HG1
        cases hlt : ltB l[j] l[j + 1]
        · have HF : Hid (q = false) := by
            show _ = _
            rw [HQ2.out]
            have : (l.all kOk && rises (l.map id)) = false := gTo_bad (k := j + 2) (by rw [HG2.out]; simp only [id, hlt]; simp)
            rw [this]
            rfl
          rw [hlt] at HR
          clear HG2 HT hokt hlt
          generalize l[j + 1].length = K at *
          generalize l[j].length = K2 at *
          go_wp2_with (first | (go_at_call 50; with_reducible refine HR.out.mono ?_; rintro e w3 ⟨rfl, hw⟩; subst hw) | fail)
          go_ret
          exact ⟨by rw [HF.out]; rfl, HB0.out⟩
        · have HG3 : Hid (gTo kOk id l (j + 1 + 1) = true) := by show _ = _; rw [HG2.out, HT.out, hokt]; simp only [id, hlt]; rfl
          rw [hlt] at HR
          clear HG2 HT hokt hlt
          generalize l[j + 1].length = K at *
          generalize l[j].length = K2 at *
          go_wp2_with (first | (go_at_call 50; with_reducible refine HR.out.mono ?_; rintro e w3 ⟨rfl, hw⟩; subst hw) | fail)
          go_roundw
          case rel => exact ⟨j + 1 + 1, by go_num, by omega, HG3.out, trivial⟩
          case measure => simp [RowKit.intOf]; omega
    · obtain rfl : k = l.length := by omega
      have HQ3 : Hid (q = m.all isPage) := by show _ = _; rw [HQ2.out, ← gTo_full, HT.out]; rfl
      clear HT HQ2
      go_wp2
      go_loopw [57] (fun i wq => ∃ k : Nat, i = .int .i64 (k : Int) ∧ k ≤ l.length + 1 ∧ (m.take k).all isPage = true ∧ wq = wr) (fun i _ => l.length + 1 - (RowKit.intOf i).toNat)
      case atStart => exact ⟨0, rfl, Nat.zero_le _, by simp, rfl⟩
      case round =>
        obtain ⟨k, rfl, hk, hT, hwq⟩ := hrel
        subst hwq
        have HT := hid hT
        clear hT
        by_cases hx : k < l.length + 1
        · have hkm : k < m.length := by have := HDl.out; omega
          obtain ⟨g, off, rfl, _, c10⟩ := HD2.out.at hkm
          have P := hid (page_any m[k] wr)
          cases hp : isPage m[k]
          · have HF : Hid (q = false) := by show _ = _; rw [HQ3.out]; exact all_bad hkm hp
            rw [hp] at P
            clear HT hp HDl
            generalize m[k] = z at *
            go_wp2_with (first | (go_at_call 51; with_reducible refine P.out.mono ?_; rintro e w3 ⟨rfl, hw⟩; subst hw) | fail)
            go_ret
            exact ⟨by rw [HF.out]; rfl, HB0.out⟩
          · have HG : Hid ((m.take (k + 1)).all isPage = true) := all_succ hkm HT.out hp
            rw [hp] at P
            clear HT hp HDl
            generalize m[k] = z at *
            go_wp2_with (first | (go_at_call 51; with_reducible refine P.out.mono ?_; rintro e w3 ⟨rfl, hw⟩; subst hw) | fail)
            go_roundw
            case rel => exact ⟨k + 1, by go_num, by omega, HG.out, trivial⟩
            case measure => simp [RowKit.intOf]; omega
        · obtain rfl : k = l.length + 1 := by omega
          have HF : Hid (q = true) := by show _ = _; rw [HQ3.out]; have h := HT.out; rw [List.take_of_length_le (by have := HDl.out; omega)] at h; exact h
          clear HT HDl
          go_wp2
          go_ret
          exact ⟨by rw [HF.out]; rfl, HB0.out⟩
theorem lenCells_ok : ∀ l : List Cl, l.all Cl.ok = true → lenCells l ≤ 195 * l.length
  | [], _ => Nat.le_refl _
  | c :: r, h => by
    simp only [List.all_cons, Bool.and_eq_true] at h
    have ih := lenCells_ok r h.2
    obtain ⟨h1, h2⟩ := Cl.ok_parts h.1
    have : c.len ≤ 195 := by
      rcases h2 with ⟨h3, h4, _⟩ | ⟨h3, _⟩
      · rw [Cl.len_in h3]; omega
      · rw [Cl.len_over (by omega)]; omega
    simp only [lenCells, List.length_cons]
    omega
theorem lenKeys_ok : ∀ l : List (List UInt8), l.all kOk = true → lenKeys l ≤ 131 * l.length
  | [], _ => Nat.le_refl _
  | c :: r, h => by
    simp only [List.all_cons, Bool.and_eq_true] at h
    have ih := lenKeys_ok r h.2
    have h1 : c.length ≤ 128 := of_decide_eq_true h.1
    simp only [lenKeys, List.length_cons]
    omega
theorem wrap_mid {a : Int} (h1 : 0 ≤ a) (h2 : a ≤ 1000000000000000) : wrap64 a = a := by unfold wrap64; omega
theorem Nd.sz_fields {n : Nd} (h : n.fields = true) (h1 : n.cells.length * 64 ≤ 140737488351232) (h2 : n.keys.length * 24 ≤ 140737488351232) : n.sz = (n.len : Int) := by
  rw [Nd.fields_eq] at h
  unfold Nd.sz
  refine wrap_mid (by omega) ?_
  unfold Nd.len
  cases hl : n.leaf
  · rw [hl] at h
    simp only [Bool.false_eq_true, if_false, Nd.inn, Bool.and_eq_true] at h
    have := lenKeys_ok _ h.2.2.2.1.1
    simp only [Bool.false_eq_true, if_false]
    omega
  · rw [hl] at h
    simp only [if_true, Nd.lf, Bool.and_eq_true] at h
    have := lenCells_ok _ h.2.2.2.1
    simp only [if_true]
    omega
/-- What Check tells, by what it asks. -/
theorem Nd.err_bad {n : Nd} (h : n.fields = false) : n.err = 3 := by unfold Nd.err; rw [h]; rfl
theorem Nd.err_long {n : Nd} (h : n.fields = true) (h2 : 508 < n.len) : n.err = 8 := by unfold Nd.err; rw [h]; simp [h2]
theorem Nd.err_ok {n : Nd} (h : n.fields = true) (h2 : ¬ 508 < n.len) : n.err = 0 := by unfold Nd.err; rw [h]; simp [h2]
set_option maxHeartbeats 2000000 in
theorem check_any {F : Nat → Prop} (cv kv dv : Value) (n : Nd) (w : World) (h : NV w F cv kv dv n) :
    Calls Try.prog 14 #[.agg #[.bool n.leaf, cv, kv, dv]] w fun e w' => e = .returned (.int .i64 n.err) ∧ Below w.heap.size w w' := by
  have hN := h
  obtain ⟨⟨pc, cc, rfl, _, _, _, hlc⟩, ⟨pk, ck, rfl, _, _, _, hlk⟩, ⟨pd, cd, rfl, _⟩⟩ := h
  have HB0 := hid (alloc_below w (.cells #[.bool n.leaf, .slice pc n.cells.length cc, .slice pk n.keys.length ck, .slice pd n.kids.length cd] 29))
  have HN0 := hid (hN.below HB0.out)
  have A := hid (rightLeaf_any n.leaf _ _ _ n _ HN0.out)
  have B := hid (rightInner_any n.leaf _ _ _ n _ HN0.out)
  have C : Hid (∀ w', Below (w.alloc (.cells #[.bool n.leaf, .slice pc n.cells.length cc, .slice pk n.keys.length ck, .slice pd n.kids.length cd] 29)).heap.size (w.alloc (.cells #[.bool n.leaf, .slice pc n.cells.length cc, .slice pk n.keys.length ck, .slice pd n.kids.length cd] 29)) w' → (w'.cell? ⟨w.heap.size, 0, none⟩ = some (.bool n.leaf) ∧ w'.cell? ⟨w.heap.size, 1, none⟩ = some (.slice pc n.cells.length cc) ∧ w'.cell? ⟨w.heap.size, 2, none⟩ = some (.slice pk n.keys.length ck) ∧ w'.cell? ⟨w.heap.size, 3, none⟩ = some (.slice pd n.kids.length cd)) ∧
      Calls Try.prog 12 #[.agg #[.bool n.leaf, .slice pc n.cells.length cc, .slice pk n.keys.length ck, .slice pd n.kids.length cd]] w' fun e w2 => e = .returned (.int .i64 n.sz) ∧ Below w'.heap.size w' w2) := fun w' b => ⟨box4 b, size_any _ _ _ n w' (HN0.out.below b)⟩
  have HFE := hid (Nd.fields_eq n)
  have HSZ := hid (fun h => Nd.sz_fields (n := n) h hlc hlk)
  have HE1 := hid (Nd.err_bad (n := n))
  have HE2 := hid (Nd.err_long (n := n))
  have HE3 := hid (Nd.err_ok (n := n))
  clear hN hlc hlk
  generalize n.err = er at *
  generalize n.cells.length = Lc at *
  generalize n.keys.length = Lk at *
  generalize n.kids.length = Ld at *
  cases hl : n.leaf
  · rw [hl] at A B C HB0 HFE HN0
    clear A
    cases hf : n.inn
    · obtain rfl : er = 3 := HE1.out (by rw [HFE.out]; exact hf)
      rw [hf] at B
      clear HE1 HE2 HE3 HSZ HFE
      go_enter Try.func14, Try.ntmps14
      go_wp2_with (first
        | (go_at_call 33; with_reducible refine B.out.mono ?_; rintro e w3 ⟨rfl, b3⟩; obtain ⟨⟨x0, x1, x2, x3⟩, _⟩ := C.out w3 b3; have HB3 := hid (HB0.out.trans (b3.mono HB0.out.size)); clear b3)
        | fail)
      go_ret
      exact ⟨rfl, HB3.out⟩
    · have hff : n.fields = true := by rw [HFE.out]; exact hf
      rw [hf] at B
      have hsz : n.sz = (n.len : Int) := HSZ.out hff
      rw [hsz] at C
      clear HSZ HFE HE1 hsz
      by_cases hlen : 508 < n.len
      · obtain rfl : er = 8 := HE2.out hff hlen
        clear HE2 HE3 hff
        generalize n.len = z at *
        go_enter Try.func14, Try.ntmps14
        go_wp2_with (first
          | (go_at_call 33; with_reducible refine B.out.mono ?_; rintro e w3 ⟨rfl, b3⟩; obtain ⟨⟨x0, x1, x2, x3⟩, S3⟩ := C.out w3 b3; have HB3 := hid (HB0.out.trans (b3.mono HB0.out.size)); clear b3)
          | (go_at_call 12; with_reducible refine S3.mono ?_; rintro e w4 ⟨rfl, b4⟩; have HB4 := hid (HB3.out.trans (b4.mono HB3.out.size)); clear b4)
          | fail)
        go_ret
        exact ⟨rfl, HB4.out⟩
      · obtain rfl : er = 0 := HE3.out hff hlen
        clear HE2 HE3 hff
        generalize n.len = z at *
        go_enter Try.func14, Try.ntmps14
        go_wp2_with (first
          | (go_at_call 33; with_reducible refine B.out.mono ?_; rintro e w3 ⟨rfl, b3⟩; obtain ⟨⟨x0, x1, x2, x3⟩, S3⟩ := C.out w3 b3; have HB3 := hid (HB0.out.trans (b3.mono HB0.out.size)); clear b3)
          | (go_at_call 12; with_reducible refine S3.mono ?_; rintro e w4 ⟨rfl, b4⟩; have HB4 := hid (HB3.out.trans (b4.mono HB3.out.size)); clear b4)
          | fail)
        go_ret
        exact ⟨rfl, HB4.out⟩
  · rw [hl] at A B C HB0 HFE HN0
    clear B
    cases hf : n.lf
    · obtain rfl : er = 3 := HE1.out (by rw [HFE.out]; exact hf)
      rw [hf] at A
      clear HE1 HE2 HE3 HSZ HFE
      go_enter Try.func14, Try.ntmps14
      go_wp2_with (first
        | (go_at_call 32; with_reducible refine A.out.mono ?_; rintro e w3 ⟨rfl, b3⟩; obtain ⟨⟨x0, x1, x2, x3⟩, _⟩ := C.out w3 b3; have HB3 := hid (HB0.out.trans (b3.mono HB0.out.size)); clear b3)
        | fail)
      go_ret
      exact ⟨rfl, HB3.out⟩
    · have hff : n.fields = true := by rw [HFE.out]; exact hf
      rw [hf] at A
      have hsz : n.sz = (n.len : Int) := HSZ.out hff
      rw [hsz] at C
      clear HSZ HFE HE1 hsz
      by_cases hlen : 508 < n.len
      · obtain rfl : er = 8 := HE2.out hff hlen
        clear HE2 HE3 hff
        generalize n.len = z at *
        go_enter Try.func14, Try.ntmps14
        go_wp2_with (first
          | (go_at_call 32; with_reducible refine A.out.mono ?_; rintro e w3 ⟨rfl, b3⟩; obtain ⟨⟨x0, x1, x2, x3⟩, S3⟩ := C.out w3 b3; have HB3 := hid (HB0.out.trans (b3.mono HB0.out.size)); clear b3)
          | (go_at_call 12; with_reducible refine S3.mono ?_; rintro e w4 ⟨rfl, b4⟩; have HB4 := hid (HB3.out.trans (b4.mono HB3.out.size)); clear b4)
          | fail)
        go_ret
        exact ⟨rfl, HB4.out⟩
      · obtain rfl : er = 0 := HE3.out hff hlen
        clear HE2 HE3 hff
        generalize n.len = z at *
        go_enter Try.func14, Try.ntmps14
        go_wp2_with (first
          | (go_at_call 32; with_reducible refine A.out.mono ?_; rintro e w3 ⟨rfl, b3⟩; obtain ⟨⟨x0, x1, x2, x3⟩, S3⟩ := C.out w3 b3; have HB3 := hid (HB0.out.trans (b3.mono HB0.out.size)); clear b3)
          | (go_at_call 12; with_reducible refine S3.mono ?_; rintro e w4 ⟨rfl, b4⟩; have HB4 := hid (HB3.out.trans (b4.mono HB3.out.size)); clear b4)
          | fail)
        go_ret
        exact ⟨rfl, HB4.out⟩
end Go.Proofs.Ytilmlegkkgiahaa
