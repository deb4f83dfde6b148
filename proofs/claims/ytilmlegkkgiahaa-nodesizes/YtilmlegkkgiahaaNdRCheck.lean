/- What the document's fields does at a node that is no leaf, and its Check. Conditions: the node lies within the reach. -/
import Derived.Test.YtilmlegkkgiahaaNdRLeaf
import Derived.Test.YtilmlegkkgiahaaNdRSize
namespace Go.Proofs.Ytilmlegkkgiahaa
open Go.RowKit Go.Lib Go.Sort
set_option linter.unusedVariables false
set_option maxRecDepth 20000

set_option maxHeartbeats 8000000 in
theorem rfields_inner {F : Nat → Prop} (cv kv dv : Value) (n : Nd) (w : World) (h : NV w F cv kv dv n) (hl : n.leaf = false) :
    Calls Try.prog 34 #[.agg #[.bool false, cv, kv, dv]] w fun e w' => e = .returned (.bool n.inn) ∧ Below w.heap.size w w' := by
  obtain ⟨⟨pc, cc, rfl, hC, _, _, hlc⟩, ⟨pk, ck, rfl, hK, _, _, hlk⟩, ⟨pd, cd, rfl, hD, _, _, hld, _⟩⟩ := h
  have HK := hid hK
  have HD := hid hD
  have HQ : Hid (n.inn = (!n.keys.isEmpty && (n.cells.isEmpty && (decide (n.kids.length = n.keys.length + 1) && ((n.keys.all kOk && rises (n.keys.map id)) && n.kids.all isPage))))) := rfl
  clear hC hK hD hl
  generalize n.inn = q at *
  by_cases e1 : n.keys.length = 0
  · obtain rfl : q = false := by rw [HQ.out, isEmpty_true e1]; rfl
    rw [e1]
    clear HQ HK HD
    go_enter Try.func34, Try.ntmps34
    go_wp2
    go_ret
    exact ⟨rfl, alloc_below _ _⟩
  have E1 := hid (isEmpty_false (l := n.keys) (by omega))
  have e1b : ((n.keys.length : Int) == 0) = false := beq_eq_false_iff_ne.2 (by omega)
  by_cases e3 : 0 < n.cells.length
  · obtain rfl : q = false := by rw [HQ.out, isEmpty_false e3]; simp
    clear HQ HK HD E1
    generalize n.cells.length = L2 at *
    generalize n.keys.length = L at *
    go_enter Try.func34, Try.ntmps34
    go_wp2
    go_ret
    exact ⟨rfl, alloc_below _ _⟩
  have e3z : n.cells.length = 0 := by omega
  have E3 := hid (isEmpty_true e3z)
  rw [e3z]
  by_cases e2 : n.kids.length = n.keys.length + 1
  case neg =>
    obtain rfl : q = false := by rw [HQ.out, decide_eq_false e2]; simp
    clear HQ HK HD E1 E3 e3z e3
    generalize n.kids.length = D at *
    generalize n.keys.length = L at *
    have e2b : ((D : Int) == (L : Int) + 1) = false := beq_eq_false_iff_ne.2 (by omega)
    go_enter Try.func34, Try.ntmps34
    go_wp2
    go_ret
    exact ⟨rfl, alloc_below _ _⟩
  have E2 := hid (decide_eq_true e2)
  have HDl := hid e2
  have HQ2 : Hid (q = ((n.keys.all kOk && rises (n.keys.map id)) && n.kids.all isPage)) := by show _ = _; rw [HQ.out, E1.out, E2.out, E3.out]; rfl
  clear HQ E1 E2 E3 e3z e3
  rw [e2]
  generalize n.keys = l at *
  generalize n.kids = m at *
  clear e2
  go_enter Try.func34, Try.ntmps34
  go_wp2
  have HB0 := hid (alloc_below w (.cells #[.bool false, .slice pc 0 cc, .slice pk l.length ck, .slice pd (l.length + 1) cd] 26))
  generalize hW : w.alloc _ = W at *
  have HK2 : Hid (Kys W F pk l) := HK.out.kp (Kp.of_below HB0.out)
  have HD2 : Hid (Kds W F pd m) := HD.out.kp (Kp.of_below HB0.out)
  have HX2 : Hid (∀ w', Below W.heap.size W w' → w'.cell? ⟨w.heap.size, 2, none⟩ = some (.slice pk l.length ck)) := by subst hW; exact fun w' B => (box4 B).2.2.1
  have HX3 : Hid (∀ w', Below W.heap.size W w' → w'.cell? ⟨w.heap.size, 3, none⟩ = some (.slice pd (l.length + 1) cd)) := by subst hW; exact fun w' B => (box4 B).2.2.2
  have HS : Hid (w.heap.size ≤ W.heap.size) := HB0.out.size
  clear hW HK HD
  go_loopw [4] (fun i wr => ∃ k : Nat, i = .int .i64 (k : Int) ∧ k ≤ l.length ∧ gTo kOk id l k = true ∧ Below W.heap.size W wr) (fun i _ => l.length - (RowKit.intOf i).toNat)
  case atStart => exact ⟨0, rfl, Nat.zero_le _, gTo_zero _ _ _, Below.refl _ _⟩
  case round =>
    obtain ⟨k, rfl, hk, hT, hB⟩ := hrel
    have HT := hid hT
    have HB := hid hB
    clear hT hB
    have x2 := HX2.out _ HB.out
    by_cases hx : k < l.length
    · obtain ⟨g, off, p1, c1, rfl, c10, b1, _⟩ := (HK2.out.kp (Kp.of_below HB.out)).get hx
      obtain ⟨hb1, _, _, y1, _⟩ := b1.len
      have HG1 := hid (gTo_one (f := kOk) (g := id) (l := l) (by omega))
      have gx2 := cell_regrown x2
      have q0 := cell_regrown c10
      have v1 := conv_reg b1
      clear b1
      by_cases hok : l[k].length ≤ 128
      case neg =>
        have hokf : kOk l[k] = false := decide_eq_false hok
        have HF : Hid (q = false) := by
          show _ = _
          rw [HQ2.out]
          have : (l.all kOk && rises (l.map id)) = false := by
            rcases Nat.eq_zero_or_pos k with rfl | hp
            · exact gTo_bad (k := 1) (by rw [HG1.out]; exact hokf)
            · obtain ⟨j, rfl⟩ : ∃ j, k = j + 1 := ⟨k - 1, by omega⟩
              exact gTo_bad (k := j + 2) (by rw [gTo_succ hx, hokf]; simp)
          rw [this]
          rfl
        clear HG1 HT hokf y1
        have hgt : decide (128 < (l[k].length : Int)) = true := decide_eq_true (by omega)
        go_wp2
        refine wp_region_quiet_below (by kernel_rfl) (by kernel_rfl) ?_
        repeat (first | go_big_quiet_step (fail) | quiet_step (fail))
        refine wpQuiet_nil ?_
        intro _ hw'
        obtain ⟨⟨dq, osq⟩, hw''⟩ := hw'
        subst hw''
        go_wp2
        go_ret
        exact ⟨by rw [HF.out]; rfl, HB0.out.trans ((HB.out.trans ((below_regrown wr dq osq).mono HB.out.size)).mono HS.out)⟩
      have hokt : kOk l[k] = true := decide_eq_true hok
      have hgt : decide (128 < (l[k].length : Int)) = false := decide_eq_false (by omega)
      rcases Nat.eq_zero_or_pos k with rfl | hp
      · have HG2 : Hid (gTo kOk id l 1 = true) := by show _ = _; rw [HG1.out]; exact hokt
        clear HG1 HT hokt y1
        simp only [Nat.add_zero] at c10 q0
        go_wp2
        refine wp_region_quiet_below (by kernel_rfl) (by kernel_rfl) ?_
        repeat (first | go_big_quiet_step (fail) | quiet_step (fail))
        refine wpQuiet_nil ?_
        intro _ hw'
        obtain ⟨⟨dq, osq⟩, hw''⟩ := hw'
        subst hw''
        go_wp2
        go_roundw
        case rel => exact ⟨1, by go_num, by omega, HG2.out, HB.out.trans ((below_regrown wr dq osq).mono HB.out.size)⟩
        case measure => simp [RowKit.intOf]; omega
      · obtain ⟨j, rfl⟩ : ∃ j, k = j + 1 := ⟨k - 1, by omega⟩
        obtain ⟨g', off', p3, c3, hge, d10, b3, _⟩ := (HK2.out.kp (Kp.of_below HB.out)).get (i := j) (by omega)
        simp only [Option.some.injEq, Addr.mk.injEq, and_true] at hge
        obtain ⟨rfl, rfl⟩ := hge
        have gd := cell_regrown d10
        have v3 := conv_reg b3
        have hs1 : ((j + 1 : Nat) : Int) - 1 = (j : Int) := by omega
        have HG2 := hid (gTo_succ (f := kOk) (g := id) hx)
        clear b3 y1 HG1
        cases hlt : ltB l[j] l[j + 1]
        · have HF : Hid (q = false) := by
            show _ = _
            rw [HQ2.out]
            have : (l.all kOk && rises (l.map id)) = false := gTo_bad (k := j + 2) (by rw [HG2.out]; simp only [id, hlt]; simp)
            rw [this]
            rfl
          have hle := le_true hlt
          clear HG2 HT hokt hlt
          go_wp2
          refine wp_region_quiet_below (by kernel_rfl) (by kernel_rfl) ?_
          repeat (first | go_big_quiet_step (fail) | quiet_step (fail))
          refine wpQuiet_nil ?_
          intro _ hw'
          obtain ⟨⟨dq, osq⟩, hw''⟩ := hw'
          subst hw''
          go_wp2
          go_ret
          exact ⟨by rw [HF.out]; rfl, HB0.out.trans ((HB.out.trans ((below_regrown wr dq osq).mono HB.out.size)).mono HS.out)⟩
        · have HG3 : Hid (gTo kOk id l (j + 1 + 1) = true) := by show _ = _; rw [HG2.out, HT.out, hokt]; simp only [id, hlt]; rfl
          have hle := le_false hlt
          clear HG2 HT hokt hlt
          go_wp2
          refine wp_region_quiet_below (by kernel_rfl) (by kernel_rfl) ?_
          repeat (first | go_big_quiet_step (fail) | quiet_step (fail))
          refine wpQuiet_nil ?_
          intro _ hw'
          obtain ⟨⟨dq, osq⟩, hw''⟩ := hw'
          subst hw''
          go_wp2
          go_roundw
          case rel => exact ⟨j + 1 + 1, by go_num, by omega, HG3.out, HB.out.trans ((below_regrown wr dq osq).mono HB.out.size)⟩
          case measure => simp [RowKit.intOf]; omega
    · obtain rfl : k = l.length := by omega
      have HQ3 : Hid (q = m.all isPage) := by show _ = _; rw [HQ2.out, ← gTo_full, HT.out]; rfl
      clear HT HQ2
      go_wp2
      have x3 := HX3.out _ HB.out
      have HD3 : Hid (Kds wr F pd m) := HD2.out.kp (Kp.of_below HB.out)
      have HB1 := hid (HB0.out.trans (HB.out.mono HS.out))
      clear HB HX2 HX3 HD2 HK2
      generalize hwz : wr = wz at *
      clear hwz
      go_loopw [5] (fun i wq => ∃ k : Nat, i = .int .i64 (k : Int) ∧ k ≤ l.length + 1 ∧ (m.take k).all isPage = true ∧ wq = wz) (fun i _ => l.length + 1 - (RowKit.intOf i).toNat)
      case atStart => exact ⟨0, rfl, Nat.zero_le _, by simp, rfl⟩
      case round =>
        obtain ⟨k, rfl, hk, hT, hwq⟩ := hrel
        subst hwq
        have HT := hid hT
        clear hT
        by_cases hx : k < l.length + 1
        · have hkm : k < m.length := by have := HDl.out; omega
          obtain ⟨g, off, rfl, _, c10⟩ := HD3.out.at hkm
          have P := hid (fun w => rpage_any m[k] w)
          cases hp : isPage m[k]
          · have HF : Hid (q = false) := by show _ = _; rw [HQ3.out]; exact all_bad hkm hp
            rw [hp] at P
            clear HT hp HDl
            generalize m[k] = z at *
            go_wp2_with (first | (go_at_call 47; with_reducible refine (P.out _).mono ?_; rintro e w3 ⟨rfl, hw⟩; subst hw) | fail)
            go_ret
            exact ⟨by rw [HF.out]; rfl, HB1.out⟩
          · have HG : Hid ((m.take (k + 1)).all isPage = true) := all_succ hkm HT.out hp
            rw [hp] at P
            clear HT hp HDl
            generalize m[k] = z at *
            go_wp2_with (first | (go_at_call 47; with_reducible refine (P.out _).mono ?_; rintro e w3 ⟨rfl, hw⟩; subst hw) | fail)
            go_roundw
            case rel => exact ⟨k + 1, by go_num, by omega, HG.out, trivial⟩
            case measure => simp [RowKit.intOf]; omega
        · obtain rfl : k = l.length + 1 := by omega
          have HF : Hid (q = true) := by show _ = _; rw [HQ3.out]; have h := HT.out; rw [List.take_of_length_le (by have := HDl.out; omega)] at h; exact h
          clear HT HDl
          go_wp2
          go_ret
          exact ⟨by rw [HF.out]; rfl, HB1.out⟩
theorem rfields_any {F : Nat → Prop} (cv kv dv : Value) (n : Nd) (w : World) (h : NV w F cv kv dv n) :
    Calls Try.prog 34 #[.agg #[.bool n.leaf, cv, kv, dv]] w fun e w' => e = .returned (.bool n.fields) ∧ Below w.heap.size w w' := by
  rw [Nd.fields_eq]
  cases hl : n.leaf
  · exact rfields_inner cv kv dv n w h hl
  · exact rfields_leaf cv kv dv n w h hl
set_option maxHeartbeats 2000000 in
theorem rcheck_any {F : Nat → Prop} (cv kv dv : Value) (n : Nd) (w : World) (h : NV w F cv kv dv n) :
    Calls Try.prog 15 #[.agg #[.bool n.leaf, cv, kv, dv]] w fun e w' => e = .returned (.int .i64 n.err) ∧ Below w.heap.size w w' := by
  have hN := h
  obtain ⟨⟨pc, cc, rfl, _, _, _, hlc⟩, ⟨pk, ck, rfl, _, _, _, hlk⟩, ⟨pd, cd, rfl, _⟩⟩ := h
  have HB0 := hid (alloc_below w (.cells #[.bool n.leaf, .slice pc n.cells.length cc, .slice pk n.keys.length ck, .slice pd n.kids.length cd] 26))
  have HN0 := hid (hN.below HB0.out)
  have A := hid (rfields_any _ _ _ n _ HN0.out)
  have C : Hid (∀ w', Below (w.alloc (.cells #[.bool n.leaf, .slice pc n.cells.length cc, .slice pk n.keys.length ck, .slice pd n.kids.length cd] 26)).heap.size (w.alloc (.cells #[.bool n.leaf, .slice pc n.cells.length cc, .slice pk n.keys.length ck, .slice pd n.kids.length cd] 26)) w' → (w'.cell? ⟨w.heap.size, 0, none⟩ = some (.bool n.leaf) ∧ w'.cell? ⟨w.heap.size, 1, none⟩ = some (.slice pc n.cells.length cc) ∧ w'.cell? ⟨w.heap.size, 2, none⟩ = some (.slice pk n.keys.length ck) ∧ w'.cell? ⟨w.heap.size, 3, none⟩ = some (.slice pd n.kids.length cd)) ∧
      Calls Try.prog 13 #[.agg #[.bool n.leaf, .slice pc n.cells.length cc, .slice pk n.keys.length ck, .slice pd n.kids.length cd]] w' fun e w2 => e = .returned (.int .i64 n.sz) ∧ Below w'.heap.size w' w2) := fun w' b => ⟨box4 b, rsize_any _ _ _ n w' (HN0.out.below b)⟩
  have HSZ := hid (fun h => Nd.sz_fields (n := n) h hlc hlk)
  have HE1 := hid (Nd.err_bad (n := n))
  have HE2 := hid (Nd.err_long (n := n))
  have HE3 := hid (Nd.err_ok (n := n))
  clear hN hlc hlk
  generalize n.err = er at *
  generalize n.cells.length = Lc at *
  generalize n.keys.length = Lk at *
  generalize n.kids.length = Ld at *
  generalize n.leaf = lf at *
  cases hf : n.fields
  · obtain rfl : er = 3 := HE1.out hf
    rw [hf] at A
    clear HE1 HE2 HE3 HSZ C
    go_enter Try.func15, Try.ntmps15
    go_wp2_with (first
      | (go_at_call 34; with_reducible refine A.out.mono ?_; rintro e w3 ⟨rfl, b3⟩; have HB3 := hid (HB0.out.trans (b3.mono HB0.out.size)); clear b3)
      | fail)
    go_ret
    exact ⟨rfl, HB3.out⟩
  · rw [hf] at A
    have hsz : n.sz = (n.len : Int) := HSZ.out hf
    rw [hsz] at C
    clear HSZ HE1 hsz
    by_cases hlen : 508 < n.len
    · obtain rfl : er = 8 := HE2.out hf hlen
      clear HE2 HE3 hf
      generalize n.len = z at *
      go_enter Try.func15, Try.ntmps15
      go_wp2_with (first
        | (go_at_call 34; with_reducible refine A.out.mono ?_; rintro e w3 ⟨rfl, b3⟩; obtain ⟨⟨x0, x1, x2, x3⟩, S3⟩ := C.out w3 b3; have HB3 := hid (HB0.out.trans (b3.mono HB0.out.size)); clear b3)
        | (go_at_call 13; with_reducible refine S3.mono ?_; rintro e w4 ⟨rfl, b4⟩; have HB4 := hid (HB3.out.trans (b4.mono HB3.out.size)); clear b4)
        | fail)
      go_ret
      exact ⟨rfl, HB4.out⟩
    · obtain rfl : er = 0 := HE3.out hf hlen
      clear HE2 HE3 hf
      generalize n.len = z at *
      go_enter Try.func15, Try.ntmps15
      go_wp2_with (first
        | (go_at_call 34; with_reducible refine A.out.mono ?_; rintro e w3 ⟨rfl, b3⟩; obtain ⟨⟨x0, x1, x2, x3⟩, S3⟩ := C.out w3 b3; have HB3 := hid (HB0.out.trans (b3.mono HB0.out.size)); clear b3)
        | (go_at_call 13; with_reducible refine S3.mono ?_; rintro e w4 ⟨rfl, b4⟩; have HB4 := hid (HB3.out.trans (b4.mono HB3.out.size)); clear b4)
        | fail)
      go_ret
      exact ⟨rfl, HB4.out⟩
end Go.Proofs.Ytilmlegkkgiahaa
