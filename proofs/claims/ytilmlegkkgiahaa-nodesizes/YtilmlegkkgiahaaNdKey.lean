/- What (reader).key of package node does: the key that a load goes on with, or what is thrown. Condition: the bytes lie within the reach. -/
import Derived.Test.YtilmlegkkgiahaaNdRest
import Derived.Test.YtilmlegkkgiahaaNdIts0
import Derived.Test.YtilmlegkkgiahaaNdLast
namespace Go.Proofs.Ytilmlegkkgiahaa
open Go.RowKit Go.Lib
set_option linter.unusedVariables false
set_option maxRecDepth 20000

theorem wpZ_two {P : Program} {ops : Array Oper} {Q : Exit → Act → World → Prop} {md : Region.Mode} {S : World → Prop} {z i j : Nat} {o o' : Oper} {n : Nat} {listed : Array Bool} {a : Act} {w : World} (hr : Region.ready md ops listed = [i, j]) (ho : ops[i]? = some o) (ho' : ops[j]? = some o')
    (h : ∀ K : Act → World → Prop, Shut (∀ a' w', (i ≠ z → S w') → ((i ≠ z → S w') → wpZ P md ops Q S z n (listed.setIfInBounds i true) a' w') → K a' w') → if Region.wanted o (yielded ops a.tmps) = true then Oper.wp P o a w K Q else K (a.put o.dst undef) w)
    (h' : ∀ K : Act → World → Prop, Shut (∀ a' w', (j ≠ z → S w') → ((j ≠ z → S w') → wpZ P md ops Q S z n (listed.setIfInBounds j true) a' w') → K a' w') → if Region.wanted o' (yielded ops a.tmps) = true then Oper.wp P o' a w K Q else K (a.put o'.dst undef) w) :
    wpZ P md ops Q S z (n + 1) listed a w := by
  refine ⟨fun h0 => ?_, fun q hq => ?_⟩
  · rw [hr] at h0
    cases h0
  · rw [hr] at hq
    simp only [List.mem_cons, List.not_mem_nil, or_false] at hq
    rcases hq with rfl | rfl
    · exact wpOp_step ho (fun K hK => h K (fun a' w' h1 h2 => hK a' w' ⟨h1, h2 h1⟩))
    · exact wpOp_step ho' (fun K hK => h' K (fun a' w' h1 h2 => hK a' w' ⟨h1, h2 h1⟩))
/-- A reader, as a value. -/
def rdc (rb tb : Nat) : Array Value := #[.func (.func 64) #[] #[.pointer (some ⟨tb, 0, none⟩)], .func (.func 65) #[] #[.pointer (some ⟨tb, 0, none⟩)], .func (.func 67) #[] #[.pointer (some ⟨tb, 0, none⟩), .pointer (some ⟨rb, 0, none⟩)]]
theorem rdc_cells (w : World) (rb tb : Nat) : (w.alloc (.cells (rdc rb tb) 69)).cell? ⟨w.heap.size, 0, none⟩ = some (.func (.func 64) #[] #[.pointer (some ⟨tb, 0, none⟩)]) ∧ (w.alloc (.cells (rdc rb tb) 69)).cell? ⟨w.heap.size, 1, none⟩ = some (.func (.func 65) #[] #[.pointer (some ⟨tb, 0, none⟩)]) ∧ (w.alloc (.cells (rdc rb tb) 69)).cell? ⟨w.heap.size, 2, none⟩ = some (.func (.func 67) #[] #[.pointer (some ⟨tb, 0, none⟩), .pointer (some ⟨rb, 0, none⟩)]) := by
  unfold rdc
  refine ⟨?_, ?_, ?_⟩ <;> simp [go_sem]
theorem rd_none {α : Type} {P : World → Value → α → Prop} {F : Nat → Prop} {rb tb : Nat} {x : Option (α × List UInt8)} {w w' : World} (h : x = none) (C : Chg (· = rb) w w') : rdEnd P F rb tb x w (.panicked (thr 10)) w' := by
  subst h
  exact ⟨C, rfl⟩
theorem rd_some {α : Type} {P : World → Value → α → Prop} {F : Nat → Prop} {rb tb : Nat} {x : Option (α × List UInt8)} {w w' : World} {v : Value} {a : α} {r : List UInt8} (h : x = some (a, r)) (C : Chg (· = rb) w w') (hp : P w' v a) (R : Rk w' F rb tb r) : rdEnd P F rb tb x w (.returned v) w' := by
  subst h
  exact ⟨C, v, rfl, hp, R⟩
theorem drew_below (w : World) : Below w.heap.size w w.drew := (Below.refl _ _).drew
theorem p1_lt {l r : List UInt8} {n : Nat} (h : p1 l = some (n, r)) : n < 256 := by
  cases l with
  | nil => cases h
  | cons x t => simp only [p1, Option.some.injEq, Prod.mk.injEq] at h; have := UInt8.toNat_lt x; omega
set_option maxHeartbeats 4000000 in
theorem rkey_any {F : Nat → Prop} (rb tb : Nat) (l : List UInt8) (w : World) (hR : Rk w F rb tb l) :
    Calls Try.prog 69 #[.agg (rdc rb tb)] w (rdEnd (fun w' v a => OwnB w' w.heap.size v a) F rb tb (pKey l) w) := by
  have HB := hid (alloc_below w (.cells (rdc rb tb) 69))
  have HCW : Hid (Chg (· = rb) w (w.alloc (.cells (rdc rb tb) 69))) := Chg.of_below HB.out
  have HR := hid (hR.below HB.out)
  have hrb := hR.lt
  have HS : Hid (∀ w', Chg (· = rb) (w.alloc (.cells (rdc rb tb) 69)) w' → w'.cell? ⟨w.heap.size, 0, none⟩ = some (.func (.func 64) #[] #[.pointer (some ⟨tb, 0, none⟩)]) ∧ w'.cell? ⟨w.heap.size, 1, none⟩ = some (.func (.func 65) #[] #[.pointer (some ⟨tb, 0, none⟩)])) := fun w' C =>
    have q := rdc_cells w rb tb
    ⟨C.cell q.1 (show ¬ w.heap.size = rb by omega), C.cell q.2.1 (show ¬ w.heap.size = rb by omega)⟩
  clear hR
  generalize hres : pKey l = res
  have HRes := hid hres.symm
  clear hres
  unfold rdc at *
  go_enter Try.func69, Try.ntmps69
  go_upto_region 1 with fail
  generalize hW : w.alloc _ = W at *
  clear hW
  have CC : Chg (· = rb) W W.drew := (Chg.refl _ _).drew
  have HN := hid (num_any rb tb 1 l W.drew (HR.out.below (drew_below W)) (by decide))
  rw [pN_one] at HN
  unfold rdEnd at HN
  cases hx : p1 l with
  | none =>
    have HP : Hid (res = none) := by show _ = _; rw [HRes.out]; unfold pKey; rw [hx]; rfl
    rw [hx] at HN
    simp only [] at HN
    clear hx HRes
    refine wp_region_z (z := 6) (S := fun w' => w'.cell? ⟨w.heap.size, 0, none⟩ = some (.func (.func 64) #[] #[.pointer (some ⟨tb, 0, none⟩)]) ∧ w'.cell? ⟨w.heap.size, 1, none⟩ = some (.func (.func 65) #[] #[.pointer (some ⟨tb, 0, none⟩)])) (by kernel_rfl) (HS.out _ CC) (fun hHeld => ?_)
    refine wpZ_take (i := 0) (t := 3) (v := ?_) rfl rfl (by kernel_rfl) (by kernel_rfl) (by kernel_rfl) (by kernel_rfl) (fun _ _ _ h => h) (Or.inl ⟨by rfl, ?_⟩) (by assumption) ?_
    rotate_left
    · intro wq hSw
      try dsimp only at hSw
      go_simp
      try with_reducible rfl
    try go_frame
    refine wpZ_take (i := 1) (t := 4) (v := ?_) rfl rfl (by kernel_rfl) (by kernel_rfl) (by kernel_rfl) (by kernel_rfl) (fun _ _ _ h => h) (Or.inl ⟨by rfl, ?_⟩) (by assumption) ?_
    rotate_left
    · intro wq hSw
      try dsimp only at hSw
      go_simp
      try with_reducible rfl
    try go_frame
    refine wpZ_take (i := 2) (t := 5) (v := ?_) rfl rfl (by kernel_rfl) (by kernel_rfl) (by kernel_rfl) (by kernel_rfl) (fun _ _ _ h => h) (Or.inl ⟨by rfl, ?_⟩) (by assumption) ?_
    rotate_left
    · intro wq hSw
      try dsimp only at hSw
      go_simp
      try with_reducible rfl
    try go_frame
    refine wpZ_take (i := 3) (t := 6) (v := ?_) rfl rfl (by kernel_rfl) (by kernel_rfl) (by kernel_rfl) (by kernel_rfl) (fun _ _ _ h => h) (Or.inl ⟨by rfl, ?_⟩) (by assumption) ?_
    rotate_left
    · intro wq hSw
      try dsimp only at hSw
      go_simp
      try with_reducible rfl
    try go_frame
    refine wpZ_step (i := 4) (by kernel_rfl) rfl (fun K hK => ?_)
    go_simp
    refine HN.out.mono ?_
    rintro e w2 ⟨C2, rfl⟩
    try dsimp only
    exact ⟨rfl, rd_none HP.out (HCW.out.trans (CC.trans C2 (fun _ _ h => h)) (fun _ _ h => h))⟩
  | some x =>
    obtain ⟨n, r⟩ := x
    have hn := p1_lt hx
    have HP : Hid (res = tk n r) := by show _ = _; rw [HRes.out]; unfold pKey; rw [hx]; rfl
    rw [hx] at HN
    simp only [] at HN
    have HBy := hid (fun w' (h : Rk w' F rb tb r) => rbytes_any rb tb n r w' h (by omega))
    unfold rdEnd at HBy
    clear hx HRes
    cases hy : tk n r with
    | none =>
      have HP2 := hid (HP.out.trans hy)
      rw [hy] at HBy
      simp only [] at HBy
      clear hy HP
      refine wp_region_z (z := 6) (S := fun w' => w'.cell? ⟨w.heap.size, 0, none⟩ = some (.func (.func 64) #[] #[.pointer (some ⟨tb, 0, none⟩)]) ∧ w'.cell? ⟨w.heap.size, 1, none⟩ = some (.func (.func 65) #[] #[.pointer (some ⟨tb, 0, none⟩)])) (by kernel_rfl) (HS.out _ CC) (fun hHeld => ?_)
      refine wpZ_take (i := 0) (t := 3) (v := ?_) rfl rfl (by kernel_rfl) (by kernel_rfl) (by kernel_rfl) (by kernel_rfl) (fun _ _ _ h => h) (Or.inl ⟨by rfl, ?_⟩) (by assumption) ?_
      rotate_left
      · intro wq hSw
        try dsimp only at hSw
        go_simp
        try with_reducible rfl
      try go_frame
      refine wpZ_take (i := 1) (t := 4) (v := ?_) rfl rfl (by kernel_rfl) (by kernel_rfl) (by kernel_rfl) (by kernel_rfl) (fun _ _ _ h => h) (Or.inl ⟨by rfl, ?_⟩) (by assumption) ?_
      rotate_left
      · intro wq hSw
        try dsimp only at hSw
        go_simp
        try with_reducible rfl
      try go_frame
      refine wpZ_take (i := 2) (t := 5) (v := ?_) rfl rfl (by kernel_rfl) (by kernel_rfl) (by kernel_rfl) (by kernel_rfl) (fun _ _ _ h => h) (Or.inl ⟨by rfl, ?_⟩) (by assumption) ?_
      rotate_left
      · intro wq hSw
        try dsimp only at hSw
        go_simp
        try with_reducible rfl
      try go_frame
      refine wpZ_take (i := 3) (t := 6) (v := ?_) rfl rfl (by kernel_rfl) (by kernel_rfl) (by kernel_rfl) (by kernel_rfl) (fun _ _ _ h => h) (Or.inl ⟨by rfl, ?_⟩) (by assumption) ?_
      rotate_left
      · intro wq hSw
        try dsimp only at hSw
        go_simp
        try with_reducible rfl
      try go_frame
      refine wpZ_step (i := 4) (by kernel_rfl) rfl (fun K hK => ?_)
      go_simp
      refine HN.out.mono ?_
      rintro e w2 ⟨C2, vn, rfl, hvn, R2⟩
      subst hvn
      replace CC := CC.trans C2 (fun _ _ h => h)
      have HY := hid (HBy.out w2 R2)
      clear C2 R2
      try dsimp only
      refine hK.out _ _ (fun _ => HS.out _ CC) (fun hHeldN => ?_)
      replace hHeld := hHeldN (by decide)
      clear hK K hHeldN
      try go_frame
      refine wpZ_step (i := 5) (by kernel_rfl) rfl (fun K hK => ?_)
      go_simp
      refine HY.out.mono ?_
      rintro e w3 ⟨C3, rfl⟩
      try dsimp only
      exact ⟨rfl, rd_none HP2.out (HCW.out.trans (CC.trans C3 (fun _ _ h => h)) (fun _ _ h => h))⟩
    | some y =>
      obtain ⟨a, q⟩ := y
      have HP2 := hid (HP.out.trans hy)
      rw [hy] at HBy
      simp only [] at HBy
      clear hy HP
      refine wp_region_z (z := 6) (S := fun w' => w'.cell? ⟨w.heap.size, 0, none⟩ = some (.func (.func 64) #[] #[.pointer (some ⟨tb, 0, none⟩)]) ∧ w'.cell? ⟨w.heap.size, 1, none⟩ = some (.func (.func 65) #[] #[.pointer (some ⟨tb, 0, none⟩)])) (by kernel_rfl) (HS.out _ CC) (fun hHeld => ?_)
      refine wpZ_take (i := 0) (t := 3) (v := ?_) rfl rfl (by kernel_rfl) (by kernel_rfl) (by kernel_rfl) (by kernel_rfl) (fun _ _ _ h => h) (Or.inl ⟨by rfl, ?_⟩) (by assumption) ?_
      rotate_left
      · intro wq hSw
        try dsimp only at hSw
        go_simp
        try with_reducible rfl
      try go_frame
      refine wpZ_take (i := 1) (t := 4) (v := ?_) rfl rfl (by kernel_rfl) (by kernel_rfl) (by kernel_rfl) (by kernel_rfl) (fun _ _ _ h => h) (Or.inl ⟨by rfl, ?_⟩) (by assumption) ?_
      rotate_left
      · intro wq hSw
        try dsimp only at hSw
        go_simp
        try with_reducible rfl
      try go_frame
      refine wpZ_take (i := 2) (t := 5) (v := ?_) rfl rfl (by kernel_rfl) (by kernel_rfl) (by kernel_rfl) (by kernel_rfl) (fun _ _ _ h => h) (Or.inl ⟨by rfl, ?_⟩) (by assumption) ?_
      rotate_left
      · intro wq hSw
        try dsimp only at hSw
        go_simp
        try with_reducible rfl
      try go_frame
      refine wpZ_take (i := 3) (t := 6) (v := ?_) rfl rfl (by kernel_rfl) (by kernel_rfl) (by kernel_rfl) (by kernel_rfl) (fun _ _ _ h => h) (Or.inl ⟨by rfl, ?_⟩) (by assumption) ?_
      rotate_left
      · intro wq hSw
        try dsimp only at hSw
        go_simp
        try with_reducible rfl
      try go_frame
      refine wpZ_step (i := 4) (by kernel_rfl) rfl (fun K hK => ?_)
      go_simp
      refine HN.out.mono ?_
      rintro e w2 ⟨C2, vn, rfl, hvn, R2⟩
      subst hvn
      replace CC := CC.trans C2 (fun _ _ h => h)
      have HY := hid (HBy.out w2 R2)
      clear C2 R2
      try dsimp only
      refine hK.out _ _ (fun _ => HS.out _ CC) (fun hHeldN => ?_)
      replace hHeld := hHeldN (by decide)
      clear hK K hHeldN
      try go_frame
      refine wpZ_step (i := 5) (by kernel_rfl) rfl (fun K hK => ?_)
      go_simp
      refine HY.out.mono ?_
      rintro e w3 ⟨C3, vb, rfl, O3, R3⟩
      have HO3 := hid (own_mono O3 (Nat.le_trans HCW.out.size CC.size))
      replace CC := CC.trans C3 (fun _ _ h => h)
      have HR3 := hid R3
      clear C3 O3 R3
      try dsimp only
      refine hK.out _ _ (fun _ => HS.out _ CC) (fun hHeldN => ?_)
      replace hHeld := hHeldN (by decide)
      clear hK K hHeldN
      try go_frame
      refine wpZ_step (i := 6) (by kernel_rfl) rfl (fun K hK => ?_)
      go_simp
      refine hK.out _ _ (fun h => absurd rfl h) (fun _ => ?_)
      clear hK K
      refine wpZ_done (by kernel_rfl) ?_
      go_wp2
      go_ret
      exact rd_some HP2.out (HCW.out.trans CC (fun _ _ h => h)) HO3.out HR3.out
end Go.Proofs.Ytilmlegkkgiahaa
