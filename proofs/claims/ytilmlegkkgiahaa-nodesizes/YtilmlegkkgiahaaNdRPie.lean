/- What (reader).piece and Open's own work of package node do. Condition: the bytes lie within the reach. -/
import Derived.Test.YtilmlegkkgiahaaNdNode
import Derived.Test.YtilmlegkkgiahaaNdEnc
namespace Go.Proofs.Ytilmlegkkgiahaa
open Go.RowKit Go.Lib
set_option linter.unusedVariables false
set_option maxRecDepth 20000

def pPie (l : List UInt8) : Option ((List UInt8 × Int) × List UInt8) := (p1 l).bind fun t => if t.1 = 3 then (p2 t.2).bind fun x => (p2 x.2).bind fun n => (tk n.1 n.2).map fun d => ((d.1, (x.1 : Int)), d.2) else none
def pOpn (l : List UInt8) : Option ((List UInt8 × Int) × List UInt8) := (pPie l).bind fun x => if pieceOk x.1.1 x.1.2 = true then some x else none
/-- A piece that is given back, in memory of its own. -/
def PieP (base : Nat) (w' : World) (v : Value) (a : List UInt8 × Int) : Prop := ∃ b, v = .agg #[b, .int .i64 a.2] ∧ BV w' (base ≤ ·) b a.1
theorem PieP.parts {base : Nat} {w : World} {v : Value} {a : List UInt8} {x : Int} (h : PieP base w v (a, x)) : ∃ p c, v = .agg #[.slice p a.length c, .int .i64 x] ∧ BV w (base ≤ ·) (.slice p a.length c) a := by
  obtain ⟨b, rfl, hb⟩ := h
  obtain ⟨p, c, rfl⟩ := hb.shape
  exact ⟨p, c, rfl, hb⟩
theorem fin_bv2 {w : World} {v y0 y1 : Value} {k : List UInt8} {b z base : Nat} (h : BV w (b ≤ ·) v k) (hz : z < b) (hb : base ≤ b) : BV ((w.setCell ⟨z, 0, none⟩ y0).setCell ⟨z, 1, none⟩ y1) (base ≤ ·) v k :=
  ((h.kp (Kp.of_set (fun e => by have h1 : b ≤ z := e; omega))).kp (Kp.of_set (fun e => by have h1 : b ≤ z := e; omega))).mono (fun j _ hj => Nat.le_trans hb hj)
theorem piece_boxes (w : World) (rb tb : Nat) : (let w' := ((w.alloc (.cells (rdc rb tb) 69)).alloc (.cells #[.slice none 0 0, .int .i64 0] 77)); w'.cell? ⟨w.heap.size, 0, none⟩ = some (.func (.func 64) #[] #[.pointer (some ⟨tb, 0, none⟩)]) ∧ w'.cell? ⟨w.heap.size, 1, none⟩ = some (.func (.func 65) #[] #[.pointer (some ⟨tb, 0, none⟩)]) ∧ w'.cell? ⟨w.heap.size, 2, none⟩ = some (.func (.func 67) #[] #[.pointer (some ⟨tb, 0, none⟩), .pointer (some ⟨rb, 0, none⟩)])) := by
  have q := rdc_cells w rb tb
  have B := alloc_below (w.alloc (.cells (rdc rb tb) 69)) (.cells #[.slice none 0 0, .int .i64 0] 77)
  exact ⟨below_cell B q.1, below_cell B q.2.1, below_cell B q.2.2⟩
theorem piece_res (w : World) (o : Obj) : (let w' := ((w.alloc o).alloc (.cells #[.slice none 0 0, .int .i64 0] 77)); w'.cell? ⟨w.heap.size + 1, 0, none⟩ = some (.slice none 0 0) ∧ w'.cell? ⟨w.heap.size + 1, 1, none⟩ = some (.int .i64 0) ∧ w'.frozen? ⟨w.heap.size + 1, 0, none⟩ = false ∧ w'.frozen? ⟨w.heap.size + 1, 1, none⟩ = false) := by
  refine ⟨?_, ?_, ?_, ?_⟩ <;> simp [go_sem]
set_option maxHeartbeats 8000000 in
theorem npiece_any (rb tb : Nat) (l : List UInt8) (w : World) (hR : Rk w (· < rb) rb tb l) :
    Calls Try.prog 41 #[.agg (rdc rb tb)] w (rdEnd (PieP w.heap.size) (· < rb) rb tb (pPie l) w) := by
  have HB := hid (below2 w (.cells (rdc rb tb) 69) (.cells #[.slice none 0 0, .int .i64 0] 77))
  have HCW : Hid (Chg (· = rb) w ((w.alloc (.cells (rdc rb tb) 69)).alloc (.cells #[.slice none 0 0, .int .i64 0] 77))) := Chg.of_below HB.out
  have HR := hid (hR.below HB.out)
  have hrb := hR.lt
  have htb := hR.tlt
  have HWs : Hid (((w.alloc (.cells (rdc rb tb) 69)).alloc (.cells #[.slice none 0 0, .int .i64 0] 77)).heap.size = w.heap.size + 2) := by show _ = _; simp
  have HSr : Hid (∀ w', Chg (· = rb) ((w.alloc (.cells (rdc rb tb) 69)).alloc (.cells #[.slice none 0 0, .int .i64 0] 77)) w' → w'.cell? ⟨w.heap.size, 0, none⟩ = some (.func (.func 64) #[] #[.pointer (some ⟨tb, 0, none⟩)]) ∧ w'.cell? ⟨w.heap.size, 1, none⟩ = some (.func (.func 65) #[] #[.pointer (some ⟨tb, 0, none⟩)]) ∧ w'.cell? ⟨w.heap.size, 2, none⟩ = some (.func (.func 67) #[] #[.pointer (some ⟨tb, 0, none⟩), .pointer (some ⟨rb, 0, none⟩)])) := fun w' C =>
    have q := piece_boxes w rb tb
    ⟨C.cell q.1 (show ¬ w.heap.size = rb by omega), C.cell q.2.1 (show ¬ w.heap.size = rb by omega), C.cell q.2.2 (show ¬ w.heap.size = rb by omega)⟩
  have HZ : Hid (∀ w', Chg (· = rb) ((w.alloc (.cells (rdc rb tb) 69)).alloc (.cells #[.slice none 0 0, .int .i64 0] 77)) w' → w'.cell? ⟨w.heap.size + 1, 0, none⟩ = some (.slice none 0 0) ∧ w'.cell? ⟨w.heap.size + 1, 1, none⟩ = some (.int .i64 0) ∧ w'.frozen? ⟨w.heap.size + 1, 0, none⟩ = false ∧ w'.frozen? ⟨w.heap.size + 1, 1, none⟩ = false) := fun w' C =>
    have q := piece_res w (.cells (rdc rb tb) 69)
    ⟨C.cell q.1 (show ¬ w.heap.size + 1 = rb by omega), C.cell q.2.1 (show ¬ w.heap.size + 1 = rb by omega), (C.frozen (p := ⟨w.heap.size + 1, 0, none⟩) (by simp) (show ¬ w.heap.size + 1 = rb by omega)).trans q.2.2.1, (C.frozen (p := ⟨w.heap.size + 1, 1, none⟩) (by simp) (show ¬ w.heap.size + 1 = rb by omega)).trans q.2.2.2⟩
  clear hR
  generalize hres : pPie l = res
  have HRes := hid hres.symm
  clear hres
  unfold rdc at *
  go_enter Try.func41, Try.ntmps41
  go_upto_region 1 with fail
  generalize hW : (w.alloc _).alloc _ = W at *
  clear hW
  obtain ⟨x0, x1, x2⟩ := HSr.out W (Chg.refl _ _)
  have A1 := hid (num1_any rb tb l W HR.out)
  unfold rdEnd at A1
  cases hx : p1 l with
  | none =>
    have HP : Hid (res = none) := by show _ = _; rw [HRes.out]; unfold pPie; rw [hx]; rfl
    rw [hx] at A1
    simp only [] at A1
    clear hx
    go_wp2_with (first
      | (go_at_call 64; with_reducible refine A1.out.mono ?_; rintro e w2 ⟨C2, rfl⟩)
      | fail)
    exact ⟨rfl, rd_none HP.out (HCW.out.trans C2 (fun _ _ h => h))⟩
  | some tx =>
    obtain ⟨t, r⟩ := tx
    have HP1 : Hid (res = if t = 3 then (p2 r).bind fun x => (p2 x.2).bind fun n => (tk n.1 n.2).map fun d => ((d.1, (x.1 : Int)), d.2) else none) := by show _ = _; rw [HRes.out]; unfold pPie; rw [hx]; rfl
    rw [hx] at A1
    simp only [] at A1
    clear hx HRes
    by_cases h3 : t = 3
    · subst h3
      have HP2 := hid (HP1.out.trans (if_pos rfl))
      clear HP1
      have A2 := hid (fun w' (h : Rk w' (· < rb) rb tb r) => num2_any rb tb r w' h)
      unfold rdEnd at A2
      cases hy : p2 r with
      | none =>
        have HP : Hid (res = none) := by show _ = _; rw [HP2.out, hy]; rfl
        rw [hy] at A2
        simp only [] at A2
        clear hy
        go_wp2_with (first
          | (go_at_call 64; with_reducible refine A1.out.mono ?_; rintro e w2 ⟨C2, vn, rfl, hvn, R2⟩; subst hvn; obtain ⟨x0', x1', x2'⟩ := HSr.out _ C2; have A3 := hid (A2.out w2 R2); have HC2 := hid C2; clear C2 R2)
          | (go_at_call 64; with_reducible refine A3.out.mono ?_; rintro e w3 ⟨C3, rfl⟩)
          | fail)
        exact ⟨rfl, rd_none HP.out (HCW.out.trans (HC2.out.trans C3 (fun _ _ h => h)) (fun _ _ h => h))⟩
      | some xx =>
        obtain ⟨x, rx⟩ := xx
        have hx16 := p2_lt hy
        have HP3 : Hid (res = (p2 rx).bind fun n => (tk n.1 n.2).map fun d => ((d.1, (x : Int)), d.2)) := by show _ = _; rw [HP2.out, hy]; rfl
        rw [hy] at A2
        simp only [] at A2
        clear hy HP2
        go_wp2_with (first
          | (go_at_call 64; with_reducible refine A1.out.mono ?_; rintro e w2 ⟨C2, vn, rfl, hvn, R2⟩; subst hvn; obtain ⟨x0', x1', x2'⟩ := HSr.out _ C2; have A3 := hid (A2.out w2 R2); have HC2 := hid C2; clear C2 R2)
          | (go_at_call 64; with_reducible refine A3.out.mono ?_; rintro e w3 ⟨C3, vd, rfl, hvd, R3⟩; subst hvd; have HC3 := hid (HC2.out.trans C3 (fun _ _ h => h)); have HR3 := hid R3; clear C3 R3)
          | fail)
        have CC : Chg (· = rb) W w3.drew := HC3.out.drew
        have RR := HR3.out.below (drew_below w3)
        have HA := hid (fun w' (h : Rk w' (· < rb) rb tb rx) => num2_any rb tb rx w' h)
        unfold rdEnd at HA
        clear A1 A2 A3 x0 x1 x2 x0' x1' x2'
        cases hz : p2 rx with
        | none =>
          have HP : Hid (res = none) := by show _ = _; rw [HP3.out, hz]; rfl
          rw [hz] at HA
          simp only [] at HA
          clear hz HP3
          refine wp_region_z (z := 8) (S := fun w' => w'.cell? ⟨w.heap.size, 0, none⟩ = some (.func (.func 64) #[] #[.pointer (some ⟨tb, 0, none⟩)]) ∧ w'.cell? ⟨w.heap.size, 1, none⟩ = some (.func (.func 65) #[] #[.pointer (some ⟨tb, 0, none⟩)]) ∧ w'.cell? ⟨w.heap.size, 2, none⟩ = some (.func (.func 67) #[] #[.pointer (some ⟨tb, 0, none⟩), .pointer (some ⟨rb, 0, none⟩)])) (by kernel_rfl) (HSr.out _ CC) (fun hHeld => ?_)
          generalize hV : w3.drew = V at *
          clear hV
          refine wpZ_take (i := 0) (t := 12) (v := ?_) rfl rfl (by kernel_rfl) (by kernel_rfl) (by kernel_rfl) (by kernel_rfl) (fun _ _ _ h => h) (Or.inl ⟨by rfl, ?_⟩) (by assumption) ?_
          rotate_left
          · intro wq hSw
            try dsimp only at hSw
            go_simp
            try with_reducible rfl
          try go_frame
          refine wpZ_take (i := 1) (t := 13) (v := ?_) rfl rfl (by kernel_rfl) (by kernel_rfl) (by kernel_rfl) (by kernel_rfl) (fun _ _ _ h => h) (Or.inl ⟨by rfl, ?_⟩) (by assumption) ?_
          rotate_left
          · intro wq hSw
            try dsimp only at hSw
            go_simp
            try with_reducible rfl
          try go_frame
          refine wpZ_take (i := 2) (t := 14) (v := ?_) rfl rfl (by kernel_rfl) (by kernel_rfl) (by kernel_rfl) (by kernel_rfl) (fun _ _ _ h => h) (Or.inl ⟨by rfl, ?_⟩) (by assumption) ?_
          rotate_left
          · intro wq hSw
            try dsimp only at hSw
            go_simp
            try with_reducible rfl
          try go_frame
          refine wpZ_take (i := 3) (t := 15) (v := ?_) rfl rfl (by kernel_rfl) (by kernel_rfl) (by kernel_rfl) (by kernel_rfl) (fun _ _ _ h => h) (Or.inl ⟨by rfl, ?_⟩) (by assumption) ?_
          rotate_left
          · intro wq hSw
            try dsimp only at hSw
            go_simp
            try with_reducible rfl
          try go_frame
          refine wpZ_take (i := 6) (t := 18) (v := ?_) rfl rfl (by kernel_rfl) (by kernel_rfl) (by kernel_rfl) (by kernel_rfl) (fun _ _ _ h => h) (Or.inl ⟨by rfl, ?_⟩) (by assumption) ?_
          rotate_left
          · intro wq hSw
            try dsimp only at hSw
            go_simp
            try with_reducible rfl
          try go_frame
          refine wpZ_step (i := 4) (by kernel_rfl) rfl (fun K hK => ?_)
          go_simp
          refine (HA.out _ RR).mono ?_
          rintro e w4 ⟨C4, rfl⟩
          try dsimp only
          exact ⟨rfl, rd_none HP.out (HCW.out.trans (CC.trans C4 (fun _ _ h => h)) (fun _ _ h => h))⟩
        | some nx =>
          obtain ⟨n, rn⟩ := nx
          have hn16 := p2_lt hz
          have HP4 : Hid (res = (tk n rn).map fun d => ((d.1, (x : Int)), d.2)) := by show _ = _; rw [HP3.out, hz]; rfl
          rw [hz] at HA
          simp only [] at HA
          have HBy := hid (fun w' (h : Rk w' (· < rb) rb tb rn) => rbytes_any rb tb n rn w' h (by omega))
          unfold rdEnd at HBy
          clear hz HP3
          cases ht : tk n rn with
          | none =>
            have HP : Hid (res = none) := by show _ = _; rw [HP4.out, ht]; rfl
            rw [ht] at HBy
            simp only [] at HBy
            clear ht HP4
            refine wp_region_z (z := 8) (S := fun w' => w'.cell? ⟨w.heap.size, 0, none⟩ = some (.func (.func 64) #[] #[.pointer (some ⟨tb, 0, none⟩)]) ∧ w'.cell? ⟨w.heap.size, 1, none⟩ = some (.func (.func 65) #[] #[.pointer (some ⟨tb, 0, none⟩)]) ∧ w'.cell? ⟨w.heap.size, 2, none⟩ = some (.func (.func 67) #[] #[.pointer (some ⟨tb, 0, none⟩), .pointer (some ⟨rb, 0, none⟩)])) (by kernel_rfl) (HSr.out _ CC) (fun hHeld => ?_)
            generalize hV : w3.drew = V at *
            clear hV
            refine wpZ_take (i := 0) (t := 12) (v := ?_) rfl rfl (by kernel_rfl) (by kernel_rfl) (by kernel_rfl) (by kernel_rfl) (fun _ _ _ h => h) (Or.inl ⟨by rfl, ?_⟩) (by assumption) ?_
            rotate_left
            · intro wq hSw
              try dsimp only at hSw
              go_simp
              try with_reducible rfl
            try go_frame
            refine wpZ_take (i := 1) (t := 13) (v := ?_) rfl rfl (by kernel_rfl) (by kernel_rfl) (by kernel_rfl) (by kernel_rfl) (fun _ _ _ h => h) (Or.inl ⟨by rfl, ?_⟩) (by assumption) ?_
            rotate_left
            · intro wq hSw
              try dsimp only at hSw
              go_simp
              try with_reducible rfl
            try go_frame
            refine wpZ_take (i := 2) (t := 14) (v := ?_) rfl rfl (by kernel_rfl) (by kernel_rfl) (by kernel_rfl) (by kernel_rfl) (fun _ _ _ h => h) (Or.inl ⟨by rfl, ?_⟩) (by assumption) ?_
            rotate_left
            · intro wq hSw
              try dsimp only at hSw
              go_simp
              try with_reducible rfl
            try go_frame
            refine wpZ_take (i := 3) (t := 15) (v := ?_) rfl rfl (by kernel_rfl) (by kernel_rfl) (by kernel_rfl) (by kernel_rfl) (fun _ _ _ h => h) (Or.inl ⟨by rfl, ?_⟩) (by assumption) ?_
            rotate_left
            · intro wq hSw
              try dsimp only at hSw
              go_simp
              try with_reducible rfl
            try go_frame
            refine wpZ_take (i := 6) (t := 18) (v := ?_) rfl rfl (by kernel_rfl) (by kernel_rfl) (by kernel_rfl) (by kernel_rfl) (fun _ _ _ h => h) (Or.inl ⟨by rfl, ?_⟩) (by assumption) ?_
            rotate_left
            · intro wq hSw
              try dsimp only at hSw
              go_simp
              try with_reducible rfl
            try go_frame
            refine wpZ_step (i := 4) (by kernel_rfl) rfl (fun K hK => ?_)
            go_simp
            refine (HA.out _ RR).mono ?_
            rintro e w4 ⟨C4, ve, rfl, hve, R4⟩
            subst hve
            replace CC := CC.trans C4 (fun _ _ h => h)
            have HY := hid (HBy.out w4 R4)
            clear C4 R4
            try dsimp only
            refine hK.out _ _ (fun _ => HSr.out _ CC) (fun hHeldN => ?_)
            replace hHeld := hHeldN (by decide)
            clear hK K hHeldN
            try go_frame
            refine wpZ_step (i := 5) (by kernel_rfl) rfl (fun K hK => ?_)
            go_simp
            refine HY.out.mono ?_
            rintro e w5 ⟨C5, rfl⟩
            try dsimp only
            exact ⟨rfl, rd_none HP.out (HCW.out.trans (CC.trans C5 (fun _ _ h => h)) (fun _ _ h => h))⟩
          | some dx =>
            obtain ⟨d, rd⟩ := dx
            have HP : Hid (res = some ((d, (x : Int)), rd)) := by show _ = _; rw [HP4.out, ht]; rfl
            have HvL : Hid (d.length ≤ 140737488351232) := by show _ ≤ _; have := tk_len ht; omega
            rw [ht] at HBy
            simp only [] at HBy
            clear ht HP4
            refine wp_region_z (z := 8) (S := fun w' => w'.cell? ⟨w.heap.size, 0, none⟩ = some (.func (.func 64) #[] #[.pointer (some ⟨tb, 0, none⟩)]) ∧ w'.cell? ⟨w.heap.size, 1, none⟩ = some (.func (.func 65) #[] #[.pointer (some ⟨tb, 0, none⟩)]) ∧ w'.cell? ⟨w.heap.size, 2, none⟩ = some (.func (.func 67) #[] #[.pointer (some ⟨tb, 0, none⟩), .pointer (some ⟨rb, 0, none⟩)])) (by kernel_rfl) (HSr.out _ CC) (fun hHeld => ?_)
            generalize hV : w3.drew = V at *
            clear hV
            refine wpZ_take (i := 0) (t := 12) (v := ?_) rfl rfl (by kernel_rfl) (by kernel_rfl) (by kernel_rfl) (by kernel_rfl) (fun _ _ _ h => h) (Or.inl ⟨by rfl, ?_⟩) (by assumption) ?_
            rotate_left
            · intro wq hSw
              try dsimp only at hSw
              go_simp
              try with_reducible rfl
            try go_frame
            refine wpZ_take (i := 1) (t := 13) (v := ?_) rfl rfl (by kernel_rfl) (by kernel_rfl) (by kernel_rfl) (by kernel_rfl) (fun _ _ _ h => h) (Or.inl ⟨by rfl, ?_⟩) (by assumption) ?_
            rotate_left
            · intro wq hSw
              try dsimp only at hSw
              go_simp
              try with_reducible rfl
            try go_frame
            refine wpZ_take (i := 2) (t := 14) (v := ?_) rfl rfl (by kernel_rfl) (by kernel_rfl) (by kernel_rfl) (by kernel_rfl) (fun _ _ _ h => h) (Or.inl ⟨by rfl, ?_⟩) (by assumption) ?_
            rotate_left
            · intro wq hSw
              try dsimp only at hSw
              go_simp
              try with_reducible rfl
            try go_frame
            refine wpZ_take (i := 3) (t := 15) (v := ?_) rfl rfl (by kernel_rfl) (by kernel_rfl) (by kernel_rfl) (by kernel_rfl) (fun _ _ _ h => h) (Or.inl ⟨by rfl, ?_⟩) (by assumption) ?_
            rotate_left
            · intro wq hSw
              try dsimp only at hSw
              go_simp
              try with_reducible rfl
            try go_frame
            refine wpZ_take (i := 6) (t := 18) (v := ?_) rfl rfl (by kernel_rfl) (by kernel_rfl) (by kernel_rfl) (by kernel_rfl) (fun _ _ _ h => h) (Or.inl ⟨by rfl, ?_⟩) (by assumption) ?_
            rotate_left
            · intro wq hSw
              try dsimp only at hSw
              go_simp
              try with_reducible rfl
            try go_frame
            refine wpZ_step (i := 4) (by kernel_rfl) rfl (fun K hK => ?_)
            go_simp
            refine (HA.out _ RR).mono ?_
            rintro e w4 ⟨C4, ve, rfl, hve, R4⟩
            subst hve
            replace CC := CC.trans C4 (fun _ _ h => h)
            have HY := hid (HBy.out w4 R4)
            clear C4 R4
            try dsimp only
            refine hK.out _ _ (fun _ => HSr.out _ CC) (fun hHeldN => ?_)
            replace hHeld := hHeldN (by decide)
            clear hK K hHeldN
            try go_frame
            refine wpZ_step (i := 5) (by kernel_rfl) rfl (fun K hK => ?_)
            go_simp
            refine HY.out.mono ?_
            rintro e w5 ⟨C5, vb, rfl, O5, R5⟩
            obtain ⟨pv, cv, hvv, _⟩ := O5.form
            subst hvv
            have hs5 : W.heap.size ≤ w4.heap.size := CC.size
            replace CC := CC.trans C5 (fun _ _ h => h)
            have HO5 := hid O5
            have HR5 := hid R5
            clear C5 O5 R5
            try dsimp only
            refine hK.out _ _ (fun _ => HSr.out _ CC) (fun hHeldN => ?_)
            replace hHeld := hHeldN (by decide)
            clear hK K hHeldN
            try go_frame
            refine wpZ_take (i := 7) (t := 19) (v := ?_) rfl rfl (by kernel_rfl) (by kernel_rfl) (by kernel_rfl) (by kernel_rfl) (fun _ _ _ h => h) (Or.inl ⟨by rfl, ?_⟩) (by assumption) ?_
            rotate_left
            · intro wq hSw
              try dsimp only at hSw
              go_simp
              try with_reducible rfl
            try go_frame
            refine wpZ_step (i := 8) (by kernel_rfl) rfl (fun K hK => ?_)
            obtain ⟨z0, z1, y0, y1⟩ := HZ.out _ CC
            go_simp
            refine hK.out _ _ (fun h => absurd rfl h) (fun _ => ?_)
            clear hK K
            refine wpZ_done (by kernel_rfl) ?_
            go_wp2
            refine bodyPost_ret (by simp [results, Try.results41, go_sem, z0, z1]; try rfl) rfl ?_
            exact rd_some HP.out ((HCW.out.trans CC (fun _ _ h => h)).setCell (p := ⟨w.heap.size + 1, 0, none⟩) (Or.inr (show w.heap.size ≤ w.heap.size + 1 by omega)) _ |>.setCell (p := ⟨w.heap.size + 1, 1, none⟩) (Or.inr (show w.heap.size ≤ w.heap.size + 1 by omega)) _) ⟨_, rfl, fin_bv2 (HO5.out.bv HvL.out) (by rw [HWs.out] at hs5; omega) (by rw [HWs.out] at hs5; omega)⟩ ((HR5.out.put (chg_set1 _ _ _ _) (by omega) (by omega)).put (chg_set1 _ _ _ _) (by omega) (by omega))
    · have HP : Hid (res = none) := HP1.out.trans (if_neg h3)
      clear HP1
      go_wp2_with (first
        | (go_at_call 64; with_reducible refine A1.out.mono ?_; rintro e w2 ⟨C2, vn, rfl, hvn, R2⟩; subst hvn; have HC2 := hid C2; clear C2 R2)
        | fail)
      exact ⟨rfl, rd_none HP.out (HCW.out.trans HC2.out (fun _ _ h => h))⟩
end Go.Proofs.Ytilmlegkkgiahaa
