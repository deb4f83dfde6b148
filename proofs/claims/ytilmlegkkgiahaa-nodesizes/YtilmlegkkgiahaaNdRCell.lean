/- What (reader).cell of package node does: the cell that a load goes on with, or what is thrown. Condition: the bytes lie within the reach. -/
import Derived.Test.YtilmlegkkgiahaaNdKey
import Derived.Test.YtilmlegkkgiahaaNdIts
namespace Go.Proofs.Ytilmlegkkgiahaa
open Go.RowKit Go.Lib
set_option linter.unusedVariables false
set_option maxRecDepth 20000

theorem Bw.chg {w w' : World} {b : Nat} {x0 x1 x2 x3 : Value} {G : Nat → Prop} (h : Bw w b x0 x1 x2 x3) (C : Chg G w w') (hn : ¬ G b) : Bw w' b x0 x1 x2 x3 := h.same (C.block b h.lt hn)
theorem kb_after {w : World} {a : Nat} {v : Value} {k : List UInt8} (h : BV w (a ≤ ·) v k) (o : Obj) : BV (w.alloc o) (fun j => a ≤ j ∧ j ≠ w.heap.size) v k := (h.mono (fun j hj h => ⟨h, by omega⟩)).below (alloc_below w o)
theorem kb_before {w : World} {a b cb : Nat} {v : Value} {k : List UInt8} (h : BV w (b ≤ ·) v k) (hab : a ≤ b) (hcb : cb < b) : BV w (fun j => a ≤ j ∧ j ≠ cb) v k := h.mono (fun j _ h => ⟨Nat.le_trans hab h, by omega⟩)
theorem chg4 (w : World) (b : Nat) (y0 y1 y2 y3 : Value) : Chg (· = b) w ((((w.setCell ⟨b, 0, none⟩ y0).setCell ⟨b, 1, none⟩ y1).setCell ⟨b, 2, none⟩ y2).setCell ⟨b, 3, none⟩ y3) :=
  (((Chg.setCell (F := (· = b)) (p := ⟨b, 0, none⟩) (Chg.refl _ w) (Or.inl rfl) y0).setCell (p := ⟨b, 1, none⟩) (Or.inl rfl) y1).setCell (p := ⟨b, 2, none⟩) (Or.inl rfl) y2).setCell (p := ⟨b, 3, none⟩) (Or.inl rfl) y3
theorem chg_put4 {F : Nat → Prop} {a w : World} {b : Nat} (C : Chg F a w) (h : a.heap.size ≤ b) (y0 y1 y2 y3 : Value) : Chg F a ((((w.setCell ⟨b, 0, none⟩ y0).setCell ⟨b, 1, none⟩ y1).setCell ⟨b, 2, none⟩ y2).setCell ⟨b, 3, none⟩ y3) :=
  (((C.setCell (p := ⟨b, 0, none⟩) (Or.inr h) y0).setCell (p := ⟨b, 1, none⟩) (Or.inr h) y1).setCell (p := ⟨b, 2, none⟩) (Or.inr h) y2).setCell (p := ⟨b, 3, none⟩) (Or.inr h) y3
theorem Rk.put {w w' : World} {rb tb cb : Nat} {l : List UInt8} (h : Rk w (· < rb) rb tb l) (C : Chg (· = cb) w w') (h1 : rb < cb) (h2 : tb < cb) : Rk w' (· < rb) rb tb l := by
  have hl := h.lt
  obtain ⟨⟨v, c0, hb⟩, f0, t0, ne, nF⟩ := h
  exact ⟨⟨v, C.cell c0 (show ¬ rb = cb by omega), hb.kp (Kp.of_chg C (fun k hk e => by have : k < rb := hk; omega))⟩, (C.frozen (p := ⟨rb, 0, none⟩) hl (show ¬ rb = cb by omega)).trans f0, C.cell t0 (show ¬ tb = cb by omega), ne, nF⟩
theorem p2_lt {l r : List UInt8} {n : Nat} (h : p2 l = some (n, r)) : n < 65536 := by
  match l, h with
  | x :: y :: t, h => simp only [p2, Option.some.injEq, Prod.mk.injEq] at h; have := UInt8.toNat_lt x; have := UInt8.toNat_lt y; omega
theorem tk_len {n : Nat} {l a r : List UInt8} (h : tk n l = some (a, r)) : a.length = n := by
  unfold tk at h
  split at h
  · cases h; rw [List.length_take]; omega
  · cases h
theorem pKey_len {l k r : List UInt8} (h : pKey l = some (k, r)) : k.length ≤ 140737488351232 := by
  unfold pKey at h
  cases hx : p1 l with
  | none => rw [hx] at h; cases h
  | some x =>
    rw [hx] at h
    have h1 := p1_lt (n := x.1) (r := x.2) hx
    have h2 := tk_len (show tk x.1 x.2 = some (k, r) from h)
    omega
theorem i64_nat {n : Nat} (h : n < 65536) : i64b (n : Int) := by unfold i64b; omega
theorem i64_zero : i64b 0 := by unfold i64b; omega
theorem num1_any {F : Nat → Prop} (rb tb : Nat) (l : List UInt8) (w : World) (hR : Rk w F rb tb l) : Calls Try.prog 64 #[.int .i64 1, .pointer (some ⟨tb, 0, none⟩)] w (rdEnd (fun _ v a => v = .int .i64 ((a : Nat) : Int)) F rb tb (p1 l) w) := by
  have := num_any rb tb 1 l w hR (by decide)
  rw [pN_one] at this
  exact this
theorem num2_any {F : Nat → Prop} (rb tb : Nat) (l : List UInt8) (w : World) (hR : Rk w F rb tb l) : Calls Try.prog 64 #[.int .i64 2, .pointer (some ⟨tb, 0, none⟩)] w (rdEnd (fun _ v a => v = .int .i64 ((a : Nat) : Int)) F rb tb (p2 l) w) := by
  have := num_any rb tb 2 l w hR (by decide)
  rw [pN_two] at this
  exact this
theorem fin_bv {w : World} {P : Nat → Prop} {v x y0 y1 y2 y3 : Value} {k : List UInt8} {cb z i base : Nat} (h : BV w P v k) (h1 : ¬ P cb) (h2 : ¬ P z) (hP : ∀ j, P j → base ≤ j) : BV (((((w.setCell ⟨cb, i, none⟩ x).setCell ⟨z, 0, none⟩ y0).setCell ⟨z, 1, none⟩ y1).setCell ⟨z, 2, none⟩ y2).setCell ⟨z, 3, none⟩ y3) (base ≤ ·) v k :=
  ((h.kp (Kp.of_set h1)).kp (Kp.of_chg (chg4 _ z y0 y1 y2 y3) (fun j hj e => h2 (by rw [← e]; exact hj)))).mono (fun j _ hj => hP j hj)
theorem fin_rk {w : World} {rb tb cb z i : Nat} {l : List UInt8} {x y0 y1 y2 y3 : Value} (h : Rk w (· < rb) rb tb l) (h1 : rb < cb) (h2 : tb < cb) (h3 : rb < z) (h4 : tb < z) : Rk (((((w.setCell ⟨cb, i, none⟩ x).setCell ⟨z, 0, none⟩ y0).setCell ⟨z, 1, none⟩ y1).setCell ⟨z, 2, none⟩ y2).setCell ⟨z, 3, none⟩ y3) (· < rb) rb tb l :=
  (h.put (Chg.setCell (F := (· = cb)) (p := ⟨cb, i, none⟩) (Chg.refl _ w) (Or.inl rfl) x) h1 h2).put (chg4 _ z y0 y1 y2 y3) h3 h4
/-- A cell that is given back, in memory of its own. -/
def CellP (base : Nat) (w' : World) (v : Value) (c : Cl) : Prop := ∃ a b, v = .agg #[a, b, .int .i64 c.over, .int .i64 c.size] ∧ BV w' (base ≤ ·) a c.key ∧ BV w' (base ≤ ·) b c.val ∧ i64b c.over ∧ i64b c.size
theorem cell_boxes (w : World) (rb tb : Nat) : (let w' := (w.alloc (.cells (rdc rb tb) 69)).alloc (.cells #[.slice none 0 0, .slice none 0 0, .int .i64 0, .int .i64 0] 58); w'.cell? ⟨w.heap.size, 0, none⟩ = some (.func (.func 64) #[] #[.pointer (some ⟨tb, 0, none⟩)]) ∧ w'.cell? ⟨w.heap.size, 1, none⟩ = some (.func (.func 65) #[] #[.pointer (some ⟨tb, 0, none⟩)]) ∧ w'.cell? ⟨w.heap.size, 2, none⟩ = some (.func (.func 67) #[] #[.pointer (some ⟨tb, 0, none⟩), .pointer (some ⟨rb, 0, none⟩)])) := by
  have q := rdc_cells w rb tb
  have B := alloc_below (w.alloc (.cells (rdc rb tb) 69)) (.cells #[.slice none 0 0, .slice none 0 0, .int .i64 0, .int .i64 0] 58)
  exact ⟨below_cell B q.1, below_cell B q.2.1, below_cell B q.2.2⟩
set_option maxHeartbeats 8000000 in
theorem ncell_any (rb tb : Nat) (l : List UInt8) (w : World) (hR : Rk w (· < rb) rb tb l) :
    Calls Try.prog 68 #[.agg (rdc rb tb)] w (rdEnd (CellP w.heap.size) (· < rb) rb tb (pCell l) w) := by
  have HB := hid (below2 w (.cells (rdc rb tb) 69) (.cells #[.slice none 0 0, .slice none 0 0, .int .i64 0, .int .i64 0] 58))
  have HCW : Hid (Chg (· = rb) w ((w.alloc (.cells (rdc rb tb) 69)).alloc (.cells #[.slice none 0 0, .slice none 0 0, .int .i64 0, .int .i64 0] 58))) := Chg.of_below HB.out
  have RR := hR.below HB.out
  have hrb := hR.lt
  have htb := hR.tlt
  have HWs : Hid (((w.alloc (.cells (rdc rb tb) 69)).alloc (.cells #[.slice none 0 0, .slice none 0 0, .int .i64 0, .int .i64 0] 58)).heap.size = w.heap.size + 2) := by show _ = _; simp
  have HS : Hid (∀ w', Chg (· = rb) ((w.alloc (.cells (rdc rb tb) 69)).alloc (.cells #[.slice none 0 0, .slice none 0 0, .int .i64 0, .int .i64 0] 58)) w' → w'.cell? ⟨w.heap.size, 0, none⟩ = some (.func (.func 64) #[] #[.pointer (some ⟨tb, 0, none⟩)]) ∧ w'.cell? ⟨w.heap.size, 1, none⟩ = some (.func (.func 65) #[] #[.pointer (some ⟨tb, 0, none⟩)]) ∧ w'.cell? ⟨w.heap.size, 2, none⟩ = some (.func (.func 67) #[] #[.pointer (some ⟨tb, 0, none⟩), .pointer (some ⟨rb, 0, none⟩)])) := fun w' C =>
    have q := cell_boxes w rb tb
    ⟨C.cell q.1 (show ¬ w.heap.size = rb by omega), C.cell q.2.1 (show ¬ w.heap.size = rb by omega), C.cell q.2.2 (show ¬ w.heap.size = rb by omega)⟩
  have HZ : Hid (∀ w', Chg (· = rb) ((w.alloc (.cells (rdc rb tb) 69)).alloc (.cells #[.slice none 0 0, .slice none 0 0, .int .i64 0, .int .i64 0] 58)) w' → Bw w' (w.heap.size + 1) (.slice none 0 0) (.slice none 0 0) (.int .i64 0) (.int .i64 0)) := fun w' C => (Bw.new1 w (.cells (rdc rb tb) 69) (.slice none 0 0) (.slice none 0 0) (.int .i64 0) (.int .i64 0) 58).chg C (show ¬ w.heap.size + 1 = rb by omega)
  have HKy := hid (fun w' (h : Rk w' (· < rb) rb tb l) => rkey_any rb tb l w' h)
  clear hR
  generalize hres : pCell l = res
  have HRes := hid hres.symm
  clear hres
  unfold rdc at *
  unfold rdEnd at HKy
  go_enter Try.func68, Try.ntmps68
  go_upto_region 1 with fail
  generalize hW : (w.alloc _).alloc _ = W at *
  clear hW
  have HrW : Hid (rb < W.heap.size) := by show _ < _; rw [HWs.out]; omega
  have HtW : Hid (tb < W.heap.size) := by show _ < _; rw [HWs.out]; omega
  have HneR : Hid (∀ c, W.heap.size ≤ c → ¬ c = rb) := fun c hc e => by have := HrW.out; omega
  go_cut [3] from 4 to 9 (fun s3 wx => ∃ (cb : Nat) (kv : Value) (k : List UInt8) (s : Nat) (r1 r2 : List UInt8), s3 = .pointer (some ⟨cb, 0, none⟩) ∧ pKey l = some (k, r1) ∧ p2 r1 = some (s, r2) ∧ Bw wx cb kv (.slice none 0 0) (.int .i64 0) (.int .i64 (s : Int)) ∧ BV wx (fun j => W.heap.size ≤ j ∧ j ≠ cb) kv k ∧ Rk wx (· < rb) rb tb r2 ∧ W.heap.size ≤ cb ∧ Chg (· = rb) W wx)
  case first =>
    clear HZ
    have CC : Chg (· = rb) W W.drew := (Chg.refl _ _).drew
    replace RR := RR.below (drew_below W)
    cases hk : pKey l with
    | none =>
      have HP : Hid (res = none) := by show _ = _; rw [HRes.out]; unfold pCell; rw [hk]; rfl
      rw [hk] at HKy
      simp only [] at HKy
      clear hk HRes
      refine wp_region_z (z := 7) (S := fun w' => w'.cell? ⟨w.heap.size, 0, none⟩ = some (.func (.func 64) #[] #[.pointer (some ⟨tb, 0, none⟩)]) ∧ w'.cell? ⟨w.heap.size, 1, none⟩ = some (.func (.func 65) #[] #[.pointer (some ⟨tb, 0, none⟩)]) ∧ w'.cell? ⟨w.heap.size, 2, none⟩ = some (.func (.func 67) #[] #[.pointer (some ⟨tb, 0, none⟩), .pointer (some ⟨rb, 0, none⟩)])) (by kernel_rfl) (HS.out _ CC) (fun hHeld => ?_)
      generalize hV : W.drew = V at *
      clear hV
      refine wpZ_take (i := 0) (t := 4) (v := ?_) rfl rfl (by kernel_rfl) (by kernel_rfl) (by kernel_rfl) (by kernel_rfl) (fun _ _ _ h => h) (Or.inl ⟨by rfl, ?_⟩) (by assumption) ?_
      rotate_left
      · intro wq hSw
        try dsimp only at hSw
        go_simp
        try with_reducible rfl
      try go_frame
      refine wpZ_take (i := 2) (t := 6) (v := ?_) rfl rfl (by kernel_rfl) (by kernel_rfl) (by kernel_rfl) (by kernel_rfl) (fun _ _ _ h => h) (Or.inl ⟨by rfl, ?_⟩) (by assumption) ?_
      rotate_left
      · intro wq hSw
        try dsimp only at hSw
        go_simp
        try with_reducible rfl
      try go_frame
      refine wpZ_take (i := 3) (t := 7) (v := ?_) rfl rfl (by kernel_rfl) (by kernel_rfl) (by kernel_rfl) (by kernel_rfl) (fun _ _ _ h => h) (Or.inl ⟨by rfl, ?_⟩) (by assumption) ?_
      rotate_left
      · intro wq hSw
        try dsimp only at hSw
        go_simp
        try with_reducible rfl
      try go_frame
      refine wpZ_two (i := 1) (j := 6) (by kernel_rfl) rfl rfl (fun K hK => ?_) (fun K hK => ?_)
      · go_simp
        go_wp2_with (first | (go_at_call 69; with_reducible refine (HKy.out _ RR).mono ?_; rintro e w2 ⟨C2, rfl⟩) | fail)
        exact ⟨rfl, rd_none HP.out (HCW.out.trans (CC.trans C2 (fun _ _ h => h)) (fun _ _ h => h))⟩
      · go_simp
        have hcb : W.heap.size ≤ V.heap.size := CC.size
        have XX := Bw.new V (.slice none 0 0) (.slice none 0 0) (.int .i64 0) (.int .i64 0) 58
        replace RR := RR.below (alloc_below V (.cells #[.slice none 0 0, .slice none 0 0, .int .i64 0, .int .i64 0] 58))
        replace CC := CC.alloc (.cells #[.slice none 0 0, .slice none 0 0, .int .i64 0, .int .i64 0] 58)
        generalize V.alloc _ = wa at *
        generalize V.heap.size = cb at *
        refine hK.out _ _ (fun _ => HS.out _ CC) (fun hHeldN => ?_)
        replace hHeld := hHeldN (by decide)
        clear hK K hHeldN
        try go_frame
        refine wpZ_step (i := 1) (by kernel_rfl) rfl (fun K hK => ?_)
        go_simp
        go_wp2_with (first | (go_at_call 69; with_reducible refine (HKy.out _ RR).mono ?_; rintro e w2 ⟨C2, rfl⟩) | fail)
        exact ⟨rfl, rd_none HP.out (HCW.out.trans (CC.trans C2 (fun _ _ h => h)) (fun _ _ h => h))⟩
    | some kx =>
      obtain ⟨k, r1⟩ := kx
      have HkL := hid (pKey_len hk)
      have HPk := hid hk
      rw [hk] at HKy
      simp only [] at HKy
      have HNm := hid (fun w' (h : Rk w' (· < rb) rb tb r1) => num_any rb tb 2 r1 w' h (by decide))
      rw [pN_two] at HNm
      unfold rdEnd at HNm
      cases hs : p2 r1 with
      | none =>
        have HP : Hid (res = none) := by show _ = _; rw [HRes.out]; unfold pCell; rw [hk]; show (p2 r1).bind _ = none; rw [hs]; rfl
        rw [hs] at HNm
        simp only [] at HNm
        clear hk HRes hs
        refine wp_region_z (z := 7) (S := fun w' => w'.cell? ⟨w.heap.size, 0, none⟩ = some (.func (.func 64) #[] #[.pointer (some ⟨tb, 0, none⟩)]) ∧ w'.cell? ⟨w.heap.size, 1, none⟩ = some (.func (.func 65) #[] #[.pointer (some ⟨tb, 0, none⟩)]) ∧ w'.cell? ⟨w.heap.size, 2, none⟩ = some (.func (.func 67) #[] #[.pointer (some ⟨tb, 0, none⟩), .pointer (some ⟨rb, 0, none⟩)])) (by kernel_rfl) (HS.out _ CC) (fun hHeld => ?_)
        generalize hV : W.drew = V at *
        clear hV
        refine wpZ_take (i := 0) (t := 4) (v := ?_) rfl rfl (by kernel_rfl) (by kernel_rfl) (by kernel_rfl) (by kernel_rfl) (fun _ _ _ h => h) (Or.inl ⟨by rfl, ?_⟩) (by assumption) ?_
        rotate_left
        · intro wq hSw
          try dsimp only at hSw
          go_simp
          try with_reducible rfl
        try go_frame
        refine wpZ_take (i := 2) (t := 6) (v := ?_) rfl rfl (by kernel_rfl) (by kernel_rfl) (by kernel_rfl) (by kernel_rfl) (fun _ _ _ h => h) (Or.inl ⟨by rfl, ?_⟩) (by assumption) ?_
        rotate_left
        · intro wq hSw
          try dsimp only at hSw
          go_simp
          try with_reducible rfl
        try go_frame
        refine wpZ_take (i := 3) (t := 7) (v := ?_) rfl rfl (by kernel_rfl) (by kernel_rfl) (by kernel_rfl) (by kernel_rfl) (fun _ _ _ h => h) (Or.inl ⟨by rfl, ?_⟩) (by assumption) ?_
        rotate_left
        · intro wq hSw
          try dsimp only at hSw
          go_simp
          try with_reducible rfl
        try go_frame
        refine wpZ_two (i := 1) (j := 6) (by kernel_rfl) rfl rfl (fun K hK => ?_) (fun K hK => ?_)
        · go_simp
          go_wp2_with (first | (go_at_call 69; with_reducible refine (HKy.out _ RR).mono ?_; rintro e w2 ⟨C2, vk, rfl, O2, R2⟩; obtain ⟨pk, ck, hvk, _⟩ := O2.form; subst hvk; have KB := (O2.bv HkL.out).mono (fun _ _ h => Nat.le_trans CC.size h); replace CC := CC.trans C2 (fun _ _ h => h); replace RR := R2; clear C2 O2 R2) | fail)
          refine hK.out _ _ (fun _ => HS.out _ CC) (fun hHeldN => ?_)
          replace hHeld := hHeldN (by decide)
          clear hK K hHeldN
          try go_frame
          refine wpZ_two (i := 4) (j := 6) (by kernel_rfl) rfl rfl (fun K hK => ?_) (fun K hK => ?_)
          · go_simp
            refine (HNm.out _ RR).mono ?_
            rintro e w3 ⟨C3, rfl⟩
            try dsimp only
            exact ⟨rfl, rd_none HP.out (HCW.out.trans (CC.trans C3 (fun _ _ h => h)) (fun _ _ h => h))⟩
          · go_simp
            have hcb : W.heap.size ≤ w2.heap.size := CC.size
            have XX := Bw.new w2 (.slice none 0 0) (.slice none 0 0) (.int .i64 0) (.int .i64 0) 58
            replace RR := RR.below (alloc_below w2 (.cells #[.slice none 0 0, .slice none 0 0, .int .i64 0, .int .i64 0] 58))
            replace CC := CC.alloc (.cells #[.slice none 0 0, .slice none 0 0, .int .i64 0, .int .i64 0] 58)
            replace KB := kb_after KB (.cells #[.slice none 0 0, .slice none 0 0, .int .i64 0, .int .i64 0] 58)
            generalize w2.alloc _ = wa at *
            generalize w2.heap.size = cb at *
            refine hK.out _ _ (fun _ => HS.out _ CC) (fun hHeldN => ?_)
            replace hHeld := hHeldN (by decide)
            clear hK K hHeldN
            try go_frame
            refine wpZ_step (i := 4) (by kernel_rfl) rfl (fun K hK => ?_)
            go_simp
            refine (HNm.out _ RR).mono ?_
            rintro e w3 ⟨C3, rfl⟩
            try dsimp only
            exact ⟨rfl, rd_none HP.out (HCW.out.trans (CC.trans C3 (fun _ _ h => h)) (fun _ _ h => h))⟩
        · go_simp
          have hcb : W.heap.size ≤ V.heap.size := CC.size
          have XX := Bw.new V (.slice none 0 0) (.slice none 0 0) (.int .i64 0) (.int .i64 0) 58
          replace RR := RR.below (alloc_below V (.cells #[.slice none 0 0, .slice none 0 0, .int .i64 0, .int .i64 0] 58))
          replace CC := CC.alloc (.cells #[.slice none 0 0, .slice none 0 0, .int .i64 0, .int .i64 0] 58)
          generalize V.alloc _ = wa at *
          generalize V.heap.size = cb at *
          refine hK.out _ _ (fun _ => HS.out _ CC) (fun hHeldN => ?_)
          replace hHeld := hHeldN (by decide)
          clear hK K hHeldN
          try go_frame
          refine wpZ_step (i := 1) (by kernel_rfl) rfl (fun K hK => ?_)
          go_simp
          go_wp2_with (first | (go_at_call 69; with_reducible refine (HKy.out _ RR).mono ?_; rintro e w2 ⟨C2, vk, rfl, O2, R2⟩; obtain ⟨pk, ck, hvk, _⟩ := O2.form; subst hvk; have KB := kb_before (O2.bv HkL.out) CC.size XX.lt; replace XX := XX.chg C2 (HneR.out _ hcb); replace CC := CC.trans C2 (fun _ _ h => h); replace RR := R2; clear C2 O2 R2) | fail)
          refine hK.out _ _ (fun _ => HS.out _ CC) (fun hHeldN => ?_)
          replace hHeld := hHeldN (by decide)
          clear hK K hHeldN
          try go_frame
          refine wpZ_step (i := 4) (by kernel_rfl) rfl (fun K hK => ?_)
          go_simp
          refine (HNm.out _ RR).mono ?_
          rintro e w3 ⟨C3, rfl⟩
          try dsimp only
          exact ⟨rfl, rd_none HP.out (HCW.out.trans (CC.trans C3 (fun _ _ h => h)) (fun _ _ h => h))⟩
      | some sx =>
        obtain ⟨s, r2⟩ := sx
        have HPs := hid hs
        rw [hs] at HNm
        simp only [] at HNm
        clear hk HRes hs
        refine wp_region_z (z := 7) (S := fun w' => w'.cell? ⟨w.heap.size, 0, none⟩ = some (.func (.func 64) #[] #[.pointer (some ⟨tb, 0, none⟩)]) ∧ w'.cell? ⟨w.heap.size, 1, none⟩ = some (.func (.func 65) #[] #[.pointer (some ⟨tb, 0, none⟩)]) ∧ w'.cell? ⟨w.heap.size, 2, none⟩ = some (.func (.func 67) #[] #[.pointer (some ⟨tb, 0, none⟩), .pointer (some ⟨rb, 0, none⟩)])) (by kernel_rfl) (HS.out _ CC) (fun hHeld => ?_)
        generalize hV : W.drew = V at *
        clear hV
        refine wpZ_take (i := 0) (t := 4) (v := ?_) rfl rfl (by kernel_rfl) (by kernel_rfl) (by kernel_rfl) (by kernel_rfl) (fun _ _ _ h => h) (Or.inl ⟨by rfl, ?_⟩) (by assumption) ?_
        rotate_left
        · intro wq hSw
          try dsimp only at hSw
          go_simp
          try with_reducible rfl
        try go_frame
        refine wpZ_take (i := 2) (t := 6) (v := ?_) rfl rfl (by kernel_rfl) (by kernel_rfl) (by kernel_rfl) (by kernel_rfl) (fun _ _ _ h => h) (Or.inl ⟨by rfl, ?_⟩) (by assumption) ?_
        rotate_left
        · intro wq hSw
          try dsimp only at hSw
          go_simp
          try with_reducible rfl
        try go_frame
        refine wpZ_take (i := 3) (t := 7) (v := ?_) rfl rfl (by kernel_rfl) (by kernel_rfl) (by kernel_rfl) (by kernel_rfl) (fun _ _ _ h => h) (Or.inl ⟨by rfl, ?_⟩) (by assumption) ?_
        rotate_left
        · intro wq hSw
          try dsimp only at hSw
          go_simp
          try with_reducible rfl
        try go_frame
        refine wpZ_two (i := 1) (j := 6) (by kernel_rfl) rfl rfl (fun K hK => ?_) (fun K hK => ?_)
        · go_simp
          go_wp2_with (first | (go_at_call 69; with_reducible refine (HKy.out _ RR).mono ?_; rintro e w2 ⟨C2, vk, rfl, O2, R2⟩; obtain ⟨pk, ck, hvk, _⟩ := O2.form; subst hvk; have KB := (O2.bv HkL.out).mono (fun _ _ h => Nat.le_trans CC.size h); replace CC := CC.trans C2 (fun _ _ h => h); replace RR := R2; clear C2 O2 R2) | fail)
          refine hK.out _ _ (fun _ => HS.out _ CC) (fun hHeldN => ?_)
          replace hHeld := hHeldN (by decide)
          clear hK K hHeldN
          try go_frame
          refine wpZ_two (i := 4) (j := 6) (by kernel_rfl) rfl rfl (fun K hK => ?_) (fun K hK => ?_)
          · go_simp
            refine (HNm.out _ RR).mono ?_
            rintro e w3 ⟨C3, vn, rfl, hvn, R3⟩
            subst hvn
            replace KB := KB.kp (Kp.of_chg C3 (fun j hj => HneR.out j hj))
            replace CC := CC.trans C3 (fun _ _ h => h)
            replace RR := R3
            clear C3 R3
            try dsimp only
            refine hK.out _ _ (fun _ => HS.out _ CC) (fun hHeldN => ?_)
            replace hHeld := hHeldN (by decide)
            clear hK K hHeldN
            try go_frame
            refine wpZ_take (i := 5) (t := 9) (v := ?_) rfl rfl (by kernel_rfl) (by kernel_rfl) (by kernel_rfl) (by kernel_rfl) (fun _ _ _ h => h) (Or.inl ⟨by rfl, ?_⟩) (by assumption) ?_
            rotate_left
            · intro wq hSw
              try dsimp only at hSw
              go_simp
              try with_reducible rfl
            try go_frame
            refine wpZ_step (i := 6) (by kernel_rfl) rfl (fun K hK => ?_)
            go_simp
            have hcb : W.heap.size ≤ w3.heap.size := CC.size
            have XX := Bw.new w3 (.slice none 0 0) (.slice none 0 0) (.int .i64 0) (.int .i64 0) 58
            replace RR := RR.below (alloc_below w3 (.cells #[.slice none 0 0, .slice none 0 0, .int .i64 0, .int .i64 0] 58))
            replace CC := CC.alloc (.cells #[.slice none 0 0, .slice none 0 0, .int .i64 0, .int .i64 0] 58)
            replace KB := kb_after KB (.cells #[.slice none 0 0, .slice none 0 0, .int .i64 0, .int .i64 0] 58)
            generalize w3.alloc _ = wa at *
            generalize w3.heap.size = cb at *
            refine hK.out _ _ (fun _ => HS.out _ CC) (fun hHeldN => ?_)
            replace hHeld := hHeldN (by decide)
            clear hK K hHeldN
            try go_frame
            refine wpZ_step (i := 7) (by kernel_rfl) rfl (fun K hK => ?_)
            obtain ⟨⟨q0, q1, q2, q3⟩, qf⟩ := XX
            have f0 := qf 0
            have f1 := qf 1
            have f2 := qf 2
            have f3 := qf 3
            go_simp
            refine hK.out _ _ (fun h => absurd rfl h) (fun _ => ?_)
            clear hK K
            refine wpZ_done (by kernel_rfl) ?_
            go_wp2_with fail
            go_meet
            case rel => exact ⟨_, _, _, _, _, _, rfl, HPk.out, HPs.out, Bw.put4 ⟨⟨q0, q1, q2, q3⟩, qf⟩ _ _ _ _, KB.kp (Kp.of_chg (chg4 _ _ _ _ _ _) (fun j hj e => hj.2 e)), RR.put (chg4 _ _ _ _ _ _) (Nat.lt_of_lt_of_le HrW.out hcb) (Nat.lt_of_lt_of_le HtW.out hcb), hcb, chg_put4 CC hcb _ _ _ _⟩
          · go_simp
            have hcb : W.heap.size ≤ w2.heap.size := CC.size
            have XX := Bw.new w2 (.slice none 0 0) (.slice none 0 0) (.int .i64 0) (.int .i64 0) 58
            replace RR := RR.below (alloc_below w2 (.cells #[.slice none 0 0, .slice none 0 0, .int .i64 0, .int .i64 0] 58))
            replace CC := CC.alloc (.cells #[.slice none 0 0, .slice none 0 0, .int .i64 0, .int .i64 0] 58)
            replace KB := kb_after KB (.cells #[.slice none 0 0, .slice none 0 0, .int .i64 0, .int .i64 0] 58)
            generalize w2.alloc _ = wa at *
            generalize w2.heap.size = cb at *
            refine hK.out _ _ (fun _ => HS.out _ CC) (fun hHeldN => ?_)
            replace hHeld := hHeldN (by decide)
            clear hK K hHeldN
            try go_frame
            refine wpZ_step (i := 4) (by kernel_rfl) rfl (fun K hK => ?_)
            go_simp
            refine (HNm.out _ RR).mono ?_
            rintro e w3 ⟨C3, vn, rfl, hvn, R3⟩
            subst hvn
            replace XX := XX.chg C3 (HneR.out _ hcb)
            replace KB := KB.kp (Kp.of_chg C3 (fun j hj => HneR.out j hj.1))
            replace CC := CC.trans C3 (fun _ _ h => h)
            replace RR := R3
            clear C3 R3
            try dsimp only
            refine hK.out _ _ (fun _ => HS.out _ CC) (fun hHeldN => ?_)
            replace hHeld := hHeldN (by decide)
            clear hK K hHeldN
            try go_frame
            refine wpZ_take (i := 5) (t := 9) (v := ?_) rfl rfl (by kernel_rfl) (by kernel_rfl) (by kernel_rfl) (by kernel_rfl) (fun _ _ _ h => h) (Or.inl ⟨by rfl, ?_⟩) (by assumption) ?_
            rotate_left
            · intro wq hSw
              try dsimp only at hSw
              go_simp
              try with_reducible rfl
            try go_frame
            refine wpZ_step (i := 7) (by kernel_rfl) rfl (fun K hK => ?_)
            obtain ⟨⟨q0, q1, q2, q3⟩, qf⟩ := XX
            have f0 := qf 0
            have f1 := qf 1
            have f2 := qf 2
            have f3 := qf 3
            go_simp
            refine hK.out _ _ (fun h => absurd rfl h) (fun _ => ?_)
            clear hK K
            refine wpZ_done (by kernel_rfl) ?_
            go_wp2_with fail
            go_meet
            case rel => exact ⟨_, _, _, _, _, _, rfl, HPk.out, HPs.out, Bw.put4 ⟨⟨q0, q1, q2, q3⟩, qf⟩ _ _ _ _, KB.kp (Kp.of_chg (chg4 _ _ _ _ _ _) (fun j hj e => hj.2 e)), RR.put (chg4 _ _ _ _ _ _) (Nat.lt_of_lt_of_le HrW.out hcb) (Nat.lt_of_lt_of_le HtW.out hcb), hcb, chg_put4 CC hcb _ _ _ _⟩
        · go_simp
          have hcb : W.heap.size ≤ V.heap.size := CC.size
          have XX := Bw.new V (.slice none 0 0) (.slice none 0 0) (.int .i64 0) (.int .i64 0) 58
          replace RR := RR.below (alloc_below V (.cells #[.slice none 0 0, .slice none 0 0, .int .i64 0, .int .i64 0] 58))
          replace CC := CC.alloc (.cells #[.slice none 0 0, .slice none 0 0, .int .i64 0, .int .i64 0] 58)
          generalize V.alloc _ = wa at *
          generalize V.heap.size = cb at *
          refine hK.out _ _ (fun _ => HS.out _ CC) (fun hHeldN => ?_)
          replace hHeld := hHeldN (by decide)
          clear hK K hHeldN
          try go_frame
          refine wpZ_step (i := 1) (by kernel_rfl) rfl (fun K hK => ?_)
          go_simp
          go_wp2_with (first | (go_at_call 69; with_reducible refine (HKy.out _ RR).mono ?_; rintro e w2 ⟨C2, vk, rfl, O2, R2⟩; obtain ⟨pk, ck, hvk, _⟩ := O2.form; subst hvk; have KB := kb_before (O2.bv HkL.out) CC.size XX.lt; replace XX := XX.chg C2 (HneR.out _ hcb); replace CC := CC.trans C2 (fun _ _ h => h); replace RR := R2; clear C2 O2 R2) | fail)
          refine hK.out _ _ (fun _ => HS.out _ CC) (fun hHeldN => ?_)
          replace hHeld := hHeldN (by decide)
          clear hK K hHeldN
          try go_frame
          refine wpZ_step (i := 4) (by kernel_rfl) rfl (fun K hK => ?_)
          go_simp
          refine (HNm.out _ RR).mono ?_
          rintro e w3 ⟨C3, vn, rfl, hvn, R3⟩
          subst hvn
          replace XX := XX.chg C3 (HneR.out _ hcb)
          replace KB := KB.kp (Kp.of_chg C3 (fun j hj => HneR.out j hj.1))
          replace CC := CC.trans C3 (fun _ _ h => h)
          replace RR := R3
          clear C3 R3
          try dsimp only
          refine hK.out _ _ (fun _ => HS.out _ CC) (fun hHeldN => ?_)
          replace hHeld := hHeldN (by decide)
          clear hK K hHeldN
          try go_frame
          refine wpZ_take (i := 5) (t := 9) (v := ?_) rfl rfl (by kernel_rfl) (by kernel_rfl) (by kernel_rfl) (by kernel_rfl) (fun _ _ _ h => h) (Or.inl ⟨by rfl, ?_⟩) (by assumption) ?_
          rotate_left
          · intro wq hSw
            try dsimp only at hSw
            go_simp
            try with_reducible rfl
          try go_frame
          refine wpZ_step (i := 7) (by kernel_rfl) rfl (fun K hK => ?_)
          obtain ⟨⟨q0, q1, q2, q3⟩, qf⟩ := XX
          have f0 := qf 0
          have f1 := qf 1
          have f2 := qf 2
          have f3 := qf 3
          go_simp
          refine hK.out _ _ (fun h => absurd rfl h) (fun _ => ?_)
          clear hK K
          refine wpZ_done (by kernel_rfl) ?_
          go_wp2_with fail
          go_meet
          case rel => exact ⟨_, _, _, _, _, _, rfl, HPk.out, HPs.out, Bw.put4 ⟨⟨q0, q1, q2, q3⟩, qf⟩ _ _ _ _, KB.kp (Kp.of_chg (chg4 _ _ _ _ _ _) (fun j hj e => hj.2 e)), RR.put (chg4 _ _ _ _ _ _) (Nat.lt_of_lt_of_le HrW.out hcb) (Nat.lt_of_lt_of_le HtW.out hcb), hcb, chg_put4 CC hcb _ _ _ _⟩
  case rest =>
  obtain ⟨cb, kv, k, s, r1, r2, rfl, hk, hs, X, KB, RX, hcb, C⟩ := hcut
  have hs16 := p2_lt hs
  have HR1 : Hid (res = if 64 < s then (p2 r2).map fun o => (⟨k, [], (o.1 : Int), (s : Int)⟩, o.2) else (tk s r2).map fun v => (⟨k, v.1, 0, (s : Int)⟩, v.2)) := by show _ = _; rw [HRes.out]; unfold pCell; rw [hk]; show (p2 r1).bind _ = _; rw [hs]; rfl
  obtain ⟨pk, ck, rfl⟩ := KB.shape
  have HX := hid X
  have HKB := hid KB
  have HC := hid C
  have HRX := hid RX
  obtain ⟨⟨q0, q1, q2, q3⟩, qf⟩ := X
  have f0 := qf 0
  have f1 := qf 1
  have f2 := qf 2
  have f3 := qf 3
  obtain ⟨x0, x1, x2⟩ := HS.out _ C
  have A1 := hid (inline_any (s : Int) wc)
  have HcR : Hid (¬ cb = rb) := HneR.out _ hcb
  have HzR : Hid (¬ w.heap.size + 1 = rb) := by show ¬ _; omega
  have HzC : Hid (w.heap.size + 1 < cb) := by show _ < _; have := HWs.out; omega
  clear hk hs HRes HKy KB RX C RR
  have hzc : w.heap.size + 1 ≠ cb := by have := HzC.out; omega
  have hzd : cb ≠ w.heap.size + 1 := fun e => hzc e.symm
  by_cases hsz : s ≤ 64
  · have hI : inl (s : Int) = true := by unfold inl; rw [decide_eq_true (by omega)]
    rw [hI] at A1
    have HR2 : Hid (res = (tk s r2).map fun v => (⟨k, v.1, 0, (s : Int)⟩, v.2)) := HR1.out.trans (if_neg (by omega))
    have A2 := hid (rbytes_any rb tb s r2 wc HRX.out (by omega))
    unfold rdEnd at A2
    clear HR1 hI
    cases ht : tk s r2 with
    | none =>
      have HP : Hid (res = none) := by show _ = _; rw [HR2.out, ht]; rfl
      rw [ht] at A2
      simp only [] at A2
      go_wp2_with (first
        | (go_at_call 61; with_reducible refine A1.out.mono ?_; rintro e w4 ⟨rfl, hw⟩; subst hw)
        | (go_at_call 65; with_reducible refine A2.out.mono ?_; rintro e w5 ⟨C5, rfl⟩)
        | fail)
      exact ⟨rfl, rd_none HP.out (HCW.out.trans (HC.out.trans C5 (fun _ _ h => h)) (fun _ _ h => h))⟩
    | some vx =>
      obtain ⟨val, r3⟩ := vx
      have HP : Hid (res = some (⟨k, val, 0, (s : Int)⟩, r3)) := by show _ = _; rw [HR2.out, ht]; rfl
      have HvL : Hid (val.length ≤ 140737488351232) := by show _ ≤ _; have := tk_len ht; omega
      rw [ht] at A2
      simp only [] at A2
      clear HR2 ht
      go_wp2_with (first
        | (go_at_call 61; with_reducible refine A1.out.mono ?_; rintro e w4 ⟨rfl, hw⟩; subst hw)
        | (go_at_call 65; with_reducible refine A2.out.mono ?_; rintro e w5 ⟨C5, vb, rfl, O5, R5⟩; obtain ⟨pv, cv, hvv, _⟩ := O5.form; subst hvv; have X5 := HX.out.chg C5 HcR.out; obtain ⟨⟨s0, s1, s2, s3⟩, sf⟩ := X5; have g0 := sf 0; have g1 := sf 1; have g2 := sf 2; have g3 := sf 3; have Z5 := HZ.out _ (HC.out.trans C5 (fun _ _ h => h)); obtain ⟨⟨z0, z1, z2, z3⟩, zf⟩ := Z5; have y0 := zf 0; have y1 := zf 1; have y2 := zf 2; have y3 := zf 3; have HC5 := hid C5; have HO5 := hid O5; have HR5 := hid R5; clear C5 O5 R5)
        | fail)
      refine bodyPost_ret (by simp [results, Try.results68, go_sem, z0, z1, z2, z3]; try rfl) rfl ?_
      exact rd_some HP.out (chg_put4 ((HCW.out.trans (HC.out.trans HC5.out (fun _ _ h => h)) (fun _ _ h => h)).setCell (p := ⟨cb, 1, none⟩) (Or.inr (by have := HzC.out; show w.heap.size ≤ cb; omega)) _) (by omega) _ _ _ _)
        ⟨_, _, rfl, fin_bv (HKB.out.kp (Kp.of_chg HC5.out (fun j hj => HneR.out j hj.1))) (fun h => h.2 rfl) (fun h => by have h1 := h.1; have := HWs.out; omega) (fun j hj => by have h1 := hj.1; have := HWs.out; omega), fin_bv (HO5.out.bv HvL.out) (fun h => by have := HX.out.lt; have h1 : _ ≤ cb := h; omega) (fun h => by have := HX.out.lt; have := HzC.out; have h1 : _ ≤ w.heap.size + 1 := h; omega) (fun j hj => by have := HC.out.size; have := HWs.out; have h1 : _ ≤ j := hj; omega), i64_zero, i64_nat hs16⟩
        (fin_rk HR5.out (by have := HzC.out; omega) (by have := HzC.out; omega) (by omega) (by omega))
  · have hI : inl (s : Int) = false := by unfold inl; rw [decide_eq_false (by omega)]
    rw [hI] at A1
    have HR2 : Hid (res = (p2 r2).map fun o => (⟨k, [], (o.1 : Int), (s : Int)⟩, o.2)) := HR1.out.trans (if_pos (by omega))
    have A2 := hid (num2_any rb tb r2 wc HRX.out)
    unfold rdEnd at A2
    clear HR1 hI
    cases ht : p2 r2 with
    | none =>
      have HP : Hid (res = none) := by show _ = _; rw [HR2.out, ht]; rfl
      rw [ht] at A2
      simp only [] at A2
      go_wp2_with (first
        | (go_at_call 61; with_reducible refine A1.out.mono ?_; rintro e w4 ⟨rfl, hw⟩; subst hw)
        | (go_at_call 64; with_reducible refine A2.out.mono ?_; rintro e w5 ⟨C5, rfl⟩)
        | fail)
      exact ⟨rfl, rd_none HP.out (HCW.out.trans (HC.out.trans C5 (fun _ _ h => h)) (fun _ _ h => h))⟩
    | some vx =>
      obtain ⟨o, r3⟩ := vx
      have HP : Hid (res = some (⟨k, [], (o : Int), (s : Int)⟩, r3)) := by show _ = _; rw [HR2.out, ht]; rfl
      have ho16 := p2_lt ht
      rw [ht] at A2
      simp only [] at A2
      clear HR2 ht
      go_wp2_with (first
        | (go_at_call 61; with_reducible refine A1.out.mono ?_; rintro e w4 ⟨rfl, hw⟩; subst hw)
        | (go_at_call 64; with_reducible refine A2.out.mono ?_; rintro e w5 ⟨C5, vb, rfl, hvb, R5⟩; subst hvb; have X5 := HX.out.chg C5 HcR.out; obtain ⟨⟨s0, s1, s2, s3⟩, sf⟩ := X5; have g0 := sf 0; have g1 := sf 1; have g2 := sf 2; have g3 := sf 3; have Z5 := HZ.out _ (HC.out.trans C5 (fun _ _ h => h)); obtain ⟨⟨z0, z1, z2, z3⟩, zf⟩ := Z5; have y0 := zf 0; have y1 := zf 1; have y2 := zf 2; have y3 := zf 3; have HC5 := hid C5; have HR5 := hid R5; clear C5 R5)
        | fail)
      refine bodyPost_ret (by simp [results, Try.results68, go_sem, z0, z1, z2, z3]; try rfl) rfl ?_
      exact rd_some HP.out (chg_put4 ((HCW.out.trans (HC.out.trans HC5.out (fun _ _ h => h)) (fun _ _ h => h)).setCell (p := ⟨cb, 2, none⟩) (Or.inr (by have := HzC.out; show w.heap.size ≤ cb; omega)) _) (by omega) _ _ _ _)
        ⟨_, _, rfl, fin_bv (HKB.out.kp (Kp.of_chg HC5.out (fun j hj => HneR.out j hj.1))) (fun h => h.2 rfl) (fun h => by have h1 := h.1; have := HWs.out; omega) (fun j hj => by have h1 := hj.1; have := HWs.out; omega), BV.nil _ _, i64_nat ho16, i64_nat hs16⟩
        (fin_rk HR5.out (by have := HzC.out; omega) (by have := HzC.out; omega) (by omega) (by omega))
end Go.Proofs.Ytilmlegkkgiahaa
