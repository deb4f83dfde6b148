/- What (reader).leaf of package node does: the leaf that a load goes on with, or what is thrown. Condition: the bytes lie within the reach. -/
import Derived.Test.YtilmlegkkgiahaaNdRCell
namespace Go.Proofs.Ytilmlegkkgiahaa
open Go.RowKit Go.Lib
set_option linter.unusedVariables false
set_option maxRecDepth 20000

/-- A node that is given back, in memory of its own. -/
def NodeP (base : Nat) (w' : World) (v : Value) (n : Nd) : Prop := ∃ cv kv dv, v = .agg #[.bool n.leaf, cv, kv, dv] ∧ NV w' (base ≤ ·) cv kv dv n
theorem CellP.parts {base : Nat} {w : World} {v : Value} {c : Cl} (h : CellP base w v c) : ∃ p1 c1 p2 c2, v = .agg #[.slice p1 c.key.length c1, .slice p2 c.val.length c2, .int .i64 c.over, .int .i64 c.size] ∧ BV w (base ≤ ·) (.slice p1 c.key.length c1) c.key ∧ BV w (base ≤ ·) (.slice p2 c.val.length c2) c.val ∧ i64b c.over ∧ i64b c.size := by
  obtain ⟨a, b, rfl, ha, hb, h1, h2⟩ := h
  obtain ⟨p1, c1, rfl⟩ := ha.shape
  obtain ⟨p2, c2, rfl⟩ := hb.shape
  exact ⟨p1, c1, p2, c2, rfl, ha, hb, h1, h2⟩
def pLeaf (l : List UInt8) : Option (Nd × List UInt8) := (p2 l).bind fun c => (pCells c.1 c.2).map fun r => (⟨true, r.1, [], []⟩, r.2)
theorem leaf_none {m : Nat} {r : List UInt8} {acc : List Cl} (h : pCell r = none) : (pCells (m + 1) r).map (fun x => ((⟨true, acc ++ x.1, [], []⟩ : Nd), x.2)) = none := by
  unfold pCells
  rw [h]
  rfl
theorem leaf_step {m : Nat} {r r' : List UInt8} {acc : List Cl} {c : Cl} (h : pCell r = some (c, r')) : (pCells (m + 1) r).map (fun x => ((⟨true, acc ++ x.1, [], []⟩ : Nd), x.2)) = (pCells m r').map (fun x => ((⟨true, (acc ++ [c]) ++ x.1, [], []⟩ : Nd), x.2)) := by
  conv => lhs; unfold pCells
  rw [h]
  simp only [Option.bind_some, Option.map_map]
  congr 1
  funext x
  simp
theorem Rk.kept {w w' : World} {rb tb : Nat} {l : List UInt8} {G : Nat → Prop} (h : Rk w (· < rb) rb tb l) (C : Chg G w w') (hG : ∀ k, G k → rb < k ∧ tb < k) : Rk w' (· < rb) rb tb l := by
  have hl := h.lt
  obtain ⟨⟨v, c0, hb⟩, f0, t0, ne, nF⟩ := h
  have n1 : ¬ G rb := fun g => by have := hG _ g; omega
  have n2 : ¬ G tb := fun g => by have := hG _ g; omega
  exact ⟨⟨v, C.cell c0 n1, hb.kp (Kp.of_chg C (fun k hk g => by have : k < rb := hk; have := hG _ g; omega))⟩, (C.frozen (p := ⟨rb, 0, none⟩) hl n1).trans f0, C.cell t0 n2, ne, nF⟩
theorem past_chg {w w' : World} {v v' : Value} (P : ∀ wx, Past wx v v' w w') : Chg (fun j => v.ownBlock = some j) w w' :=
  have P0 := P w.heap.size
  ⟨P0.os, P0.tape, P0.output, P0.size, fun j hj hn => P0.block j hj (Nat.ne_of_lt hj) hn⟩
theorem chgF_past {F : Nat → Prop} {w0 w w' : World} {v v' : Value} (C : Chg F w0 w) (P : ∀ wx, Past wx v v' w w') (h : ∀ j, v.ownBlock = some j → w0.heap.size ≤ j) : Chg F w0 w' :=
  C.trans (past_chg P) (fun j hj e => by have := h j e; omega)
theorem chg_set1 (w : World) (b i : Nat) (y : Value) : Chg (· = b) w (w.setCell ⟨b, i, none⟩ y) := Chg.setCell (F := (· = b)) (p := ⟨b, i, none⟩) (Chg.refl _ w) (Or.inl rfl) y
theorem below3' (w : World) (o1 o2 o3 : Obj) : Below w.heap.size w (((w.alloc o1).alloc o2).alloc o3) := (((Below.refl _ _).alloc (Nat.le_refl _) o1).alloc (by simp) o2).alloc (by simp; omega) o3
theorem Bw.new2 (w : World) (o o' : Obj) (x0 x1 x2 x3 : Value) (t : TypeId) : Bw (((w.alloc o).alloc o').alloc (.cells #[x0, x1, x2, x3] t)) (w.heap.size + 2) x0 x1 x2 x3 := by
  have h := Bw.new ((w.alloc o).alloc o') x0 x1 x2 x3 t
  have e : ((w.alloc o).alloc o').heap.size = w.heap.size + 2 := by simp
  rw [e] at h
  exact h
theorem leaf_boxes (w : World) (rb tb : Nat) : (let w' := (((w.alloc (.cells (rdc rb tb) 69)).alloc (.cells #[.bool false, .slice none 0 0, .slice none 0 0, .slice none 0 0] 29)).alloc (.cells #[.bool true, .slice none 0 0, .slice none 0 0, .slice none 0 0] 29)); w'.cell? ⟨w.heap.size, 0, none⟩ = some (.func (.func 64) #[] #[.pointer (some ⟨tb, 0, none⟩)]) ∧ w'.cell? ⟨w.heap.size, 1, none⟩ = some (.func (.func 65) #[] #[.pointer (some ⟨tb, 0, none⟩)]) ∧ w'.cell? ⟨w.heap.size, 2, none⟩ = some (.func (.func 67) #[] #[.pointer (some ⟨tb, 0, none⟩), .pointer (some ⟨rb, 0, none⟩)])) := by
  have q := rdc_cells w rb tb
  have B := below2 (w.alloc (.cells (rdc rb tb) 69)) (.cells #[.bool false, .slice none 0 0, .slice none 0 0, .slice none 0 0] 29) (.cells #[.bool true, .slice none 0 0, .slice none 0 0, .slice none 0 0] 29)
  exact ⟨below_cell B q.1, below_cell B q.2.1, below_cell B q.2.2⟩
set_option maxHeartbeats 8000000 in
theorem nleaf_any (rb tb : Nat) (l : List UInt8) (w : World) (hR : Rk w (· < rb) rb tb l) :
    Calls Try.prog 55 #[.agg (rdc rb tb)] w (rdEnd (NodeP w.heap.size) (· < rb) rb tb (pLeaf l) w) := by
  have HB := hid (below3' w (.cells (rdc rb tb) 69) (.cells #[.bool false, .slice none 0 0, .slice none 0 0, .slice none 0 0] 29) (.cells #[.bool true, .slice none 0 0, .slice none 0 0, .slice none 0 0] 29))
  have HCW : Hid (Chg (· = rb) w (((w.alloc (.cells (rdc rb tb) 69)).alloc (.cells #[.bool false, .slice none 0 0, .slice none 0 0, .slice none 0 0] 29)).alloc (.cells #[.bool true, .slice none 0 0, .slice none 0 0, .slice none 0 0] 29))) := Chg.of_below HB.out
  have HR := hid (hR.below HB.out)
  have hrb := hR.lt
  have htb := hR.tlt
  have HWs : Hid ((((w.alloc (.cells (rdc rb tb) 69)).alloc (.cells #[.bool false, .slice none 0 0, .slice none 0 0, .slice none 0 0] 29)).alloc (.cells #[.bool true, .slice none 0 0, .slice none 0 0, .slice none 0 0] 29)).heap.size = w.heap.size + 3) := by show _ = _; simp
  have HSr : Hid (∀ w', Chg (fun j => j = rb ∨ j = w.heap.size + 2) (((w.alloc (.cells (rdc rb tb) 69)).alloc (.cells #[.bool false, .slice none 0 0, .slice none 0 0, .slice none 0 0] 29)).alloc (.cells #[.bool true, .slice none 0 0, .slice none 0 0, .slice none 0 0] 29)) w' → w'.cell? ⟨w.heap.size, 0, none⟩ = some (.func (.func 64) #[] #[.pointer (some ⟨tb, 0, none⟩)]) ∧ w'.cell? ⟨w.heap.size, 1, none⟩ = some (.func (.func 65) #[] #[.pointer (some ⟨tb, 0, none⟩)]) ∧ w'.cell? ⟨w.heap.size, 2, none⟩ = some (.func (.func 67) #[] #[.pointer (some ⟨tb, 0, none⟩), .pointer (some ⟨rb, 0, none⟩)])) := fun w' C =>
    have q := leaf_boxes w rb tb
    have hn : ¬ (w.heap.size = rb ∨ w.heap.size = w.heap.size + 2) := by omega
    ⟨C.cell q.1 hn, C.cell q.2.1 hn, C.cell q.2.2 hn⟩
  have HZ : Hid (∀ w', Chg (fun j => j = rb ∨ j = w.heap.size + 2) (((w.alloc (.cells (rdc rb tb) 69)).alloc (.cells #[.bool false, .slice none 0 0, .slice none 0 0, .slice none 0 0] 29)).alloc (.cells #[.bool true, .slice none 0 0, .slice none 0 0, .slice none 0 0] 29)) w' → Bw w' (w.heap.size + 1) (.bool false) (.slice none 0 0) (.slice none 0 0) (.slice none 0 0)) := fun w' C => ((Bw.new1 w (.cells (rdc rb tb) 69) (.bool false) (.slice none 0 0) (.slice none 0 0) (.slice none 0 0) 29).alc (.cells #[.bool true, .slice none 0 0, .slice none 0 0, .slice none 0 0] 29)).chg C (show ¬ (w.heap.size + 1 = rb ∨ w.heap.size + 1 = w.heap.size + 2) by omega)
  have HX0 := hid (Bw.new2 w (.cells (rdc rb tb) 69) (.cells #[.bool false, .slice none 0 0, .slice none 0 0, .slice none 0 0] 29) (.bool true) (.slice none 0 0) (.slice none 0 0) (.slice none 0 0) 29)
  clear hR
  generalize hres : pLeaf l = res
  have HRes := hid hres.symm
  clear hres
  unfold rdc at *
  go_enter Try.func55, Try.ntmps55
  go_upto_region 2 with fail
  generalize hW : ((w.alloc _).alloc _).alloc _ = W at *
  clear hW
  obtain ⟨x0, x1, x2⟩ := HSr.out W (Chg.refl _ _)
  have A1 := hid (num2_any rb tb l W HR.out)
  unfold rdEnd at A1
  cases hx : p2 l with
  | none =>
    have HP : Hid (res = none) := by show _ = _; rw [HRes.out]; unfold pLeaf; rw [hx]; rfl
    rw [hx] at A1
    simp only [] at A1
    clear hx
    go_wp2_with (first
      | (go_at_call 64; with_reducible refine A1.out.mono ?_; rintro e w2 ⟨C2, rfl⟩)
      | fail)
    exact ⟨rfl, rd_none HP.out (HCW.out.trans C2 (fun _ _ h => h))⟩
  | some nx =>
    obtain ⟨N, r0⟩ := nx
    have hN := p2_lt hx
    have HR0 : Hid (res = (pCells N r0).map (fun x => ((⟨true, [] ++ x.1, [], []⟩ : Nd), x.2))) := by show _ = _; rw [HRes.out]; unfold pLeaf; rw [hx]; rfl
    rw [hx] at A1
    simp only [] at A1
    clear hx HRes
    go_wp2_with (first
      | (go_at_call 64; with_reducible refine A1.out.mono ?_; rintro e w2 ⟨C2, vn, rfl, hvn, R2⟩; subst hvn; have HC2 := hid C2; have HR2 := hid R2; clear C2 R2)
      | fail)
    have hw2 : w.heap.size + 3 ≤ w2.heap.size := by rw [← HWs.out]; exact HC2.out.size
    have HC2' : Hid (Chg (fun j => j = rb ∨ j = w.heap.size + 2) W w2) := HC2.out.mono (fun _ _ h => Or.inl h)
    clear A1 x0 x1 x2
    go_loopw [8] (fun i wr => ∃ (k : Nat) (acc : List Cl) (r : List UInt8) (cv' : Value), i = .int .i64 (k : Int) ∧ k ≤ N ∧ acc.length = k ∧ Bw wr (w.heap.size + 2) (.bool true) cv' (.slice none 0 0) (.slice none 0 0) ∧ OwnC 58 wr w2.heap.size cv' acc ∧ Rk wr (· < rb) rb tb r ∧ res = (pCells (N - k) r).map (fun x => ((⟨true, acc ++ x.1, [], []⟩ : Nd), x.2)) ∧ Chg (fun j => j = rb ∨ j = w.heap.size + 2) w2 wr) (fun i _ => N - (RowKit.intOf i).toNat)
    case atStart => exact ⟨0, [], r0, _, rfl, Nat.zero_le _, rfl, HX0.out.chg HC2.out (show ¬ w.heap.size + 2 = rb by omega), OwnC.nil _ _ _, HR2.out, HR0.out, Chg.refl _ _⟩
    case round =>
      obtain ⟨k, acc, r, cv', rfl, hk, hacc, X, O, R, hres, C⟩ := hrel
      obtain ⟨p0, c0, hv0⟩ := own_cform O k hacc
      subst hv0
      have HX := hid X
      have HO := hid O
      have HRr := hid R
      have HE := hid hres
      have HC := hid C
      have HAcc := hid hacc
      have HwR : Hid (w2.heap.size ≤ wr.heap.size) := C.size
      have HTw : Hid (Chg (fun j => j = rb ∨ j = w.heap.size + 2) W wr) := HC2'.out.trans C (fun _ _ h => h)
      have HTot : Hid (∀ w', Chg (· = rb) wr w' → Chg (· = rb) w w') := fun w' C' => (HCW.out.trans HTw.out (fun j hj h => h.elim id (fun e => by omega))).trans C' (fun _ _ h => h)
      clear X O R hres C hacc HR0 HR2 HX0
      by_cases hx : k < N
      · obtain ⟨m, hm⟩ : ∃ m, N - k = m + 1 := ⟨N - k - 1, by omega⟩
        have hm' : N - (k + 1) = m := by omega
        rw [hm] at HE
        have HS : Hid (∀ w', Chg (· = rb) wr w' → w'.cell? ⟨w.heap.size + 2, 1, none⟩ = some (.slice p0 k c0) ∧ w'.cell? ⟨w.heap.size, 0, none⟩ = some (.func (.func 64) #[] #[.pointer (some ⟨tb, 0, none⟩)]) ∧ w'.cell? ⟨w.heap.size, 1, none⟩ = some (.func (.func 65) #[] #[.pointer (some ⟨tb, 0, none⟩)]) ∧ w'.cell? ⟨w.heap.size, 2, none⟩ = some (.func (.func 67) #[] #[.pointer (some ⟨tb, 0, none⟩), .pointer (some ⟨rb, 0, none⟩)])) := fun w' C' => ⟨(HX.out.chg C' (show ¬ w.heap.size + 2 = rb by omega)).bx.c1, HSr.out _ (HTw.out.trans C' (fun _ _ h => Or.inl h))⟩
        have HA := hid (ncell_any rb tb r wr.drew (HRr.out.below (drew_below wr)))
        unfold rdEnd rdc at HA
        go_wp2
        have CC : Chg (· = rb) wr wr.drew := (Chg.refl _ _).drew
        cases hc : pCell r with
        | none =>
          have HP : Hid (res = none) := HE.out.trans (leaf_none hc)
          rw [hc] at HA
          simp only [] at HA
          clear hc HE
          refine wp_region_z (z := 7) (S := fun w' => w'.cell? ⟨w.heap.size + 2, 1, none⟩ = some (.slice p0 k c0) ∧ w'.cell? ⟨w.heap.size, 0, none⟩ = some (.func (.func 64) #[] #[.pointer (some ⟨tb, 0, none⟩)]) ∧ w'.cell? ⟨w.heap.size, 1, none⟩ = some (.func (.func 65) #[] #[.pointer (some ⟨tb, 0, none⟩)]) ∧ w'.cell? ⟨w.heap.size, 2, none⟩ = some (.func (.func 67) #[] #[.pointer (some ⟨tb, 0, none⟩), .pointer (some ⟨rb, 0, none⟩)])) (by kernel_rfl) (HS.out _ CC) (fun hHeld => ?_)
          generalize hV : wr.drew = V at *
          clear hV
          refine wpZ_take (i := 0) (t := 10) (v := ?_) rfl rfl (by kernel_rfl) (by kernel_rfl) (by kernel_rfl) (by kernel_rfl) (fun _ _ _ h => h) (Or.inl ⟨by rfl, ?_⟩) (by assumption) ?_
          rotate_left
          · intro wq hSw
            try dsimp only at hSw
            go_simp
            try with_reducible rfl
          try go_frame
          refine wpZ_take (i := 1) (t := 11) (v := ?_) rfl rfl (by kernel_rfl) (by kernel_rfl) (by kernel_rfl) (by kernel_rfl) (fun _ _ _ h => h) (Or.inl ⟨by rfl, ?_⟩) (by assumption) ?_
          rotate_left
          · intro wq hSw
            try dsimp only at hSw
            go_simp
            try with_reducible rfl
          try go_frame
          refine wpZ_take (i := 2) (t := 12) (v := ?_) rfl rfl (by kernel_rfl) (by kernel_rfl) (by kernel_rfl) (by kernel_rfl) (fun _ _ _ h => h) (Or.inl ⟨by rfl, ?_⟩) (by assumption) ?_
          rotate_left
          · intro wq hSw
            try dsimp only at hSw
            go_simp
            try with_reducible rfl
          try go_frame
          refine wpZ_step (i := 3) (by kernel_rfl) rfl (fun K hK => ?_)
          go_simp
          go_wp2_with (first | (go_at_call 68; with_reducible refine HA.out.mono ?_; rintro e w3 ⟨C3, rfl⟩) | fail)
          exact ⟨rfl, rd_none HP.out ((HTot.out _ CC).trans C3 (fun _ _ h => h))⟩
        | some cx =>
          obtain ⟨c, r'⟩ := cx
          have HE2 : Hid (res = (pCells m r').map (fun x => ((⟨true, (acc ++ [c]) ++ x.1, [], []⟩ : Nd), x.2))) := HE.out.trans (leaf_step hc)
          rw [hc] at HA
          simp only [] at HA
          clear hc HE
          have HLen : Hid ((acc ++ [c]).length = k + 1) := by show _ = _; rw [List.length_append, HAcc.out]; rfl
          have HLk : Hid ((acc.length + 1) * 64 ≤ 140737488351232) := by show _ ≤ _; rw [HAcc.out]; omega
          have HOk : Hid (∀ w', Chg (· = rb) wr w' → OwnC 58 w' w2.heap.size (.slice p0 k c0) acc) := fun w' C' => HO.out.kp (Kp.of_chg C' (fun j hj e => by have h1 : w2.heap.size ≤ j := hj; have h2 : j = rb := e; omega))
          have HFr : Hid (∀ j, wr.drew.heap.size ≤ j → own' w2.heap.size (.slice p0 k c0) j) := fun j hj => by
            have hj' : wr.heap.size ≤ j := hj
            exact ⟨by have := HwR.out; omega, fun e => by have := (HO.out.lt' e).2; omega⟩
          have HSp : Hid (∀ (cur : World) (v' : Value) (w' : World), Chg (· = rb) wr cur → Rk cur (· < rb) rb tb r' → (∀ wx, Past wx (.slice p0 k c0) v' cur w') → (w'.cell? ⟨w.heap.size + 2, 1, none⟩ = some (.slice p0 k c0) ∧ w'.cell? ⟨w.heap.size, 0, none⟩ = some (.func (.func 64) #[] #[.pointer (some ⟨tb, 0, none⟩)]) ∧ w'.cell? ⟨w.heap.size, 1, none⟩ = some (.func (.func 65) #[] #[.pointer (some ⟨tb, 0, none⟩)]) ∧ w'.cell? ⟨w.heap.size, 2, none⟩ = some (.func (.func 67) #[] #[.pointer (some ⟨tb, 0, none⟩), .pointer (some ⟨rb, 0, none⟩)])) ∧ Bw w' (w.heap.size + 2) (.bool true) (.slice p0 k c0) (.slice none 0 0) (.slice none 0 0) ∧ Chg (fun j => j = rb ∨ j = w.heap.size + 2) w2 w' ∧ Rk w' (· < rb) rb tb r') := fun cur v' w' C' R' P => by
            have hob : ∀ j, (Value.slice p0 k c0).ownBlock = some j → w2.heap.size ≤ j := fun j e => (HO.out.lt' e).1
            have X5 := (HX.out.chg C' (show ¬ w.heap.size + 2 = rb by omega)).chg (past_chg P) (fun e => by have := hob _ e; omega)
            have CT : Chg (fun j => j = rb ∨ j = w.heap.size + 2) w2 w' := chgF_past (HC.out.trans C' (fun _ _ h => Or.inl h)) P hob
            exact ⟨⟨X5.bx.c1, HSr.out _ (HC2'.out.trans CT (fun _ _ h => h))⟩, X5, CT, R'.kept (past_chg P) (fun j e => by have := hob _ e; omega)⟩
          refine wp_region_z (z := 7) (S := fun w' => w'.cell? ⟨w.heap.size + 2, 1, none⟩ = some (.slice p0 k c0) ∧ w'.cell? ⟨w.heap.size, 0, none⟩ = some (.func (.func 64) #[] #[.pointer (some ⟨tb, 0, none⟩)]) ∧ w'.cell? ⟨w.heap.size, 1, none⟩ = some (.func (.func 65) #[] #[.pointer (some ⟨tb, 0, none⟩)]) ∧ w'.cell? ⟨w.heap.size, 2, none⟩ = some (.func (.func 67) #[] #[.pointer (some ⟨tb, 0, none⟩), .pointer (some ⟨rb, 0, none⟩)])) (by kernel_rfl) (HS.out _ CC) (fun hHeld => ?_)
          generalize hV : wr.drew = V at *
          clear hV
          refine wpZ_take (i := 0) (t := 10) (v := ?_) rfl rfl (by kernel_rfl) (by kernel_rfl) (by kernel_rfl) (by kernel_rfl) (fun _ _ _ h => h) (Or.inl ⟨by rfl, ?_⟩) (by assumption) ?_
          rotate_left
          · intro wq hSw
            try dsimp only at hSw
            go_simp
            try with_reducible rfl
          try go_frame
          refine wpZ_take (i := 1) (t := 11) (v := ?_) rfl rfl (by kernel_rfl) (by kernel_rfl) (by kernel_rfl) (by kernel_rfl) (fun _ _ _ h => h) (Or.inl ⟨by rfl, ?_⟩) (by assumption) ?_
          rotate_left
          · intro wq hSw
            try dsimp only at hSw
            go_simp
            try with_reducible rfl
          try go_frame
          refine wpZ_take (i := 2) (t := 12) (v := ?_) rfl rfl (by kernel_rfl) (by kernel_rfl) (by kernel_rfl) (by kernel_rfl) (fun _ _ _ h => h) (Or.inl ⟨by rfl, ?_⟩) (by assumption) ?_
          rotate_left
          · intro wq hSw
            try dsimp only at hSw
            go_simp
            try with_reducible rfl
          try go_frame
          refine wpZ_step (i := 3) (by kernel_rfl) rfl (fun K hK => ?_)
          go_simp
          go_wp2_with (first | (go_at_call 68; with_reducible refine HA.out.mono ?_; rintro e w3 ⟨C3, va, rfl, hcp, R3⟩; obtain ⟨p1, c1, p2', c2, hva, bk, bvv, i1, i2⟩ := hcp.parts; subst hva; replace CC := CC.trans C3 (fun _ _ h => h); replace RR := R3; clear C3 R3 hcp) | fail)
          refine hK.out _ _ (fun _ => HS.out _ CC) (fun hHeldN => ?_)
          replace hHeld := hHeldN (by decide)
          clear hK K hHeldN
          try go_frame
          refine wpZ_step (i := 4) (by kernel_rfl) rfl (fun K hK => ?_)
          go_simp
          replace CC := CC.alloc (.cells #[.slice p1 c.key.length c1, .slice p2' c.val.length c2, .int .i64 c.over, .int .i64 c.size] 58)
          refine hK.out _ _ (fun _ => HS.out _ CC) (fun hHeldN => ?_)
          replace hHeld := hHeldN (by decide)
          clear hK K hHeldN
          try go_frame
          refine wpZ_step (i := 5) (by kernel_rfl) rfl (fun K hK => ?_)
          refine stC 27 58 Try.underlying27 infoCl (c := c) (HOk.out _ CC) (Bx.new _ _ _ _ _ _) (cr_mk HFr.out (bk.below (alloc_below _ _)) (bvv.below (alloc_below _ _)) i1 i2) rfl rfl rfl rfl HLk.out (Nat.le_trans HwR.out CC.size) ?_
          intro v5 w5 O5 P5 B5
          obtain ⟨S5, XB, C5, R5⟩ := HSp.out _ v5 w5 CC (RR.below (alloc_below w3 (.cells #[.slice p1 c.key.length c1, .slice p2' c.val.length c2, .int .i64 c.over, .int .i64 c.size] 58))) P5
          obtain ⟨p5, c5, hv5⟩ := own_cform O5 (k + 1) HLen.out
          subst hv5
          have q1 := XB.bx.c1
          have f1 := XB.fz 1
          have HO5 := hid O5
          have HX5 := hid XB
          have HC5 := hid C5
          have HR5 := hid R5
          clear O5 XB C5 P5 B5 R5
          refine hK.out _ _ (fun _ => S5) (fun hHeldN => ?_)
          replace hHeld := hHeldN (by decide)
          clear hK K hHeldN
          try go_frame
          refine wpZ_take (i := 6) (t := 16) (v := ?_) rfl rfl (by kernel_rfl) (by kernel_rfl) (by kernel_rfl) (by kernel_rfl) (fun _ _ _ h => h) (Or.inl ⟨by rfl, ?_⟩) (by assumption) ?_
          rotate_left
          · intro wq hSw
            try dsimp only at hSw
            go_simp
            try with_reducible rfl
          try go_frame
          refine wpZ_step (i := 7) (by kernel_rfl) rfl (fun K hK => ?_)
          go_simp
          refine hK.out _ _ (fun h => absurd rfl h) (fun _ => ?_)
          clear hK K
          refine wpZ_done (by kernel_rfl) ?_
          go_wp2
          go_roundw
          case rel => exact ⟨k + 1, acc ++ [c], r', _, by go_num, by omega, HLen.out, HX5.out.set1 _, HO5.out.kp (Kp.of_set (by omega)), HR5.out.put (chg_set1 _ _ _ _) (by omega) (by omega), by rw [hm']; exact HE2.out, HC5.out.setCell (p := ⟨w.heap.size + 2, 1, none⟩) (Or.inl (Or.inr rfl)) _⟩
          case measure => simp [RowKit.intOf]; omega
      · obtain rfl : k = N := by omega
        have HP : Hid (res = some (⟨true, acc, [], []⟩, r)) := by
          show _ = _
          rw [HE.out, Nat.sub_self]
          simp [pCells]
        obtain ⟨⟨t0, t1, t2, t3⟩, tf⟩ := HX.out
        obtain ⟨⟨z0, z1, z2, z3⟩, zf⟩ := HZ.out _ HTw.out
        have y0 := zf 0
        have y1 := zf 1
        have y2 := zf 2
        have y3 := zf 3
        have HNV : Hid (∀ y0 y1 y2 y3, NV ((((wr.setCell ⟨w.heap.size + 1, 0, none⟩ y0).setCell ⟨w.heap.size + 1, 1, none⟩ y1).setCell ⟨w.heap.size + 1, 2, none⟩ y2).setCell ⟨w.heap.size + 1, 3, none⟩ y3) (w.heap.size ≤ ·) (.slice p0 k c0) (.slice none 0 0) (.slice none 0 0) ⟨true, acc, [], []⟩) := fun y0 y1 y2 y3 =>
          ⟨((HO.out.kp (Kp.of_chg (chg4 wr (w.heap.size + 1) y0 y1 y2 y3) (fun j hj e => by have h1 : w2.heap.size ≤ j := hj; have h2 : j = w.heap.size + 1 := e; omega))).csv (by rw [HAcc.out]; omega)).mono (fun j _ hj => by have h1 : w2.heap.size ≤ j := hj; omega), KsV.nil _ _, DsV.nil _ _⟩
        have HRf : Hid (∀ y0 y1 y2 y3, Rk ((((wr.setCell ⟨w.heap.size + 1, 0, none⟩ y0).setCell ⟨w.heap.size + 1, 1, none⟩ y1).setCell ⟨w.heap.size + 1, 2, none⟩ y2).setCell ⟨w.heap.size + 1, 3, none⟩ y3) (· < rb) rb tb r) := fun y0 y1 y2 y3 => HRr.out.put (chg4 wr (w.heap.size + 1) y0 y1 y2 y3) (by omega) (by omega)
        have HCf := hid (HTot.out wr (Chg.refl _ _))
        clear HO HE HX HSr HZ
        go_wp2
        refine bodyPost_ret (by simp [results, Try.results55, go_sem, z0, z1, z2, z3]; try rfl) rfl ?_
        exact rd_some HP.out (chg_put4 HCf.out (by omega) _ _ _ _) ⟨_, _, _, rfl, HNV.out _ _ _ _⟩ (HRf.out _ _ _ _)
end Go.Proofs.Ytilmlegkkgiahaa
