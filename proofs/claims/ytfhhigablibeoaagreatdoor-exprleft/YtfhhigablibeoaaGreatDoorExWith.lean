/- What with of the reader of package expr does. Conditions: none. -/
import Derived.Test.YtfhhigablibeoaaGreatDoorXH
namespace Go.Proofs.YtfhhigablibeoaaGreatDoor
open Go.RowKit Go.Lib Go.Sort
set_option linter.unusedVariables false
set_option maxRecDepth 20000

set_option maxHeartbeats 16000000 in
theorem with_any {w : World} {F : Nat → Prop} {rb : Nat} {p : Option Addr} {c : Nat} {xs l : Ts} {d G : Nat} {fs cs : Array Value} {P : Ts → Rd Ex} (o : Opr) (e : Ex) (pe : Option Addr) (ce k : Nat) (h : RS w rb p c xs l d) (hl : l ≠ []) (hen : ∀ args w, (callFunc G args).run Tryz.prog w = .ok (.enter G args) w) (hP : LineOk rb p c xs d G (fs ++ cs) P) (hF : ∀ j, F j → j ≠ rb) (hE : EAt w F k e pe) :
    Calls Tryz.prog 71 #[.pointer (some ⟨rb, 0, none⟩), .agg #[.int .i64 o.kind, .int .i64 o.op, .int .i64 o.tok, .string ⟨o.txt.toArray⟩, .int .i64 o.line], .agg #[.int .i64 e.k, .int .i64 e.op, .int .i64 e.v.k, .int .i64 e.v.n, .string e.v.s, .string ⟨e.t.toArray⟩, .string ⟨e.n.toArray⟩, .int .i64 0, .int .i64 0, .slice pe e.xs.length ce], .func (.func G) fs cs] w (RdE (QF (fun j => F j ∨ w.heap.size ≤ j)) rb p c xs d (match P l.tail with | .error x => .error x | .ok y => .ok (mkE o.kind o.op [e, y.1], y.2)) w) := by
  have hlt := h.lt
  have c1 := h.c1
  have f1 := h.f 1
  have hlt1 : rb < w.heap.size + 1 := by omega
  have hlt2 : rb < w.heap.size + 1 + 1 := by omega
  have hsz := h.suf.length_le
  have hlen := h.len
  have hlp : 0 < l.length := List.length_pos_iff.2 hl
  have hw : IntKind.i64.wrap ((xs.length : Int) - (l.length : Int) + 1) = (xs.length : Int) - (l.length : Int) + 1 := by rw [IntKind.wrap_i64]; omega
  have HX : Hid ((xs.length : Int) - (l.length : Int) + 1 = (xs.length : Int) - (l.tail.length : Int)) := by show _ = _; rw [List.length_tail]; omega
  generalize hJ : (xs.length : Int) - (l.length : Int) = J at c1 hw HX
  clear hJ
  have HRW := hid ((((h.mv (suf_tail.trans h.suf) (J + 1) HX.out).below (albl _ (.cells #[.int .i64 o.kind, .int .i64 o.op, .int .i64 o.tok, .string ⟨o.txt.toArray⟩, .int .i64 o.line] 87))).below (albl _ (.cells #[.int .i64 e.k, .int .i64 e.op, .int .i64 e.v.k, .int .i64 e.v.n, .string e.v.s, .string ⟨e.t.toArray⟩, .string ⟨e.n.toArray⟩, .int .i64 0, .int .i64 0, .slice pe e.xs.length ce] 32))).below (albl _ (.cells #[.int .i64 0, .int .i64 0, .int .i64 0, .int .i64 0, .string ⟨#[]⟩, .string ⟨#[]⟩, .string ⟨#[]⟩, .int .i64 0, .int .i64 0, .slice none 0 0] 32)))
  have HCW : Hid (Chg (· = rb) w ((((w.setCell ⟨rb, 1, none⟩ (.int .i64 (J + 1))).alloc (.cells #[.int .i64 o.kind, .int .i64 o.op, .int .i64 o.tok, .string ⟨o.txt.toArray⟩, .int .i64 o.line] 87)).alloc (.cells #[.int .i64 e.k, .int .i64 e.op, .int .i64 e.v.k, .int .i64 e.v.n, .string e.v.s, .string ⟨e.t.toArray⟩, .string ⟨e.n.toArray⟩, .int .i64 0, .int .i64 0, .slice pe e.xs.length ce] 32)).alloc (.cells #[.int .i64 0, .int .i64 0, .int .i64 0, .int .i64 0, .string ⟨#[]⟩, .string ⟨#[]⟩, .string ⟨#[]⟩, .int .i64 0, .int .i64 0, .slice none 0 0] 32))) := (((chg_set (Chg.refl _ _) _).alloc _).alloc _).alloc _
  have hs1 : (w.setCell ⟨rb, 1, none⟩ (.int .i64 (J + 1))).heap.size = w.heap.size := by simp [World.setCell]
  obtain ⟨hs4, e2, e3, e4⟩ := alc3 (w.setCell ⟨rb, 1, none⟩ (.int .i64 (J + 1))) (.cells #[.int .i64 o.kind, .int .i64 o.op, .int .i64 o.tok, .string ⟨o.txt.toArray⟩, .int .i64 o.line] 87) (.cells #[.int .i64 e.k, .int .i64 e.op, .int .i64 e.v.k, .int .i64 e.v.n, .string e.v.s, .string ⟨e.t.toArray⟩, .string ⟨e.n.toArray⟩, .int .i64 0, .int .i64 0, .slice pe e.xs.length ce] 32) (.cells #[.int .i64 0, .int .i64 0, .int .i64 0, .int .i64 0, .string ⟨#[]⟩, .string ⟨#[]⟩, .string ⟨#[]⟩, .int .i64 0, .int .i64 0, .slice none 0 0] 32)
  rw [hs1] at hs4 e2 e3 e4
  have HRes0 := hid (show ResX ((((w.setCell ⟨rb, 1, none⟩ (.int .i64 (J + 1))).alloc (.cells #[.int .i64 o.kind, .int .i64 o.op, .int .i64 o.tok, .string ⟨o.txt.toArray⟩, .int .i64 o.line] 87)).alloc (.cells #[.int .i64 e.k, .int .i64 e.op, .int .i64 e.v.k, .int .i64 e.v.n, .string e.v.s, .string ⟨e.t.toArray⟩, .string ⟨e.n.toArray⟩, .int .i64 0, .int .i64 0, .slice pe e.xs.length ce] 32)).alloc (.cells #[.int .i64 0, .int .i64 0, .int .i64 0, .int .i64 0, .string ⟨#[]⟩, .string ⟨#[]⟩, .string ⟨#[]⟩, .int .i64 0, .int .i64 0, .slice none 0 0] 32)) (w.heap.size + 2) from e4)
  have HBX := hid (show BX ((((w.setCell ⟨rb, 1, none⟩ (.int .i64 (J + 1))).alloc (.cells #[.int .i64 o.kind, .int .i64 o.op, .int .i64 o.tok, .string ⟨o.txt.toArray⟩, .int .i64 o.line] 87)).alloc (.cells #[.int .i64 e.k, .int .i64 e.op, .int .i64 e.v.k, .int .i64 e.v.n, .string e.v.s, .string ⟨e.t.toArray⟩, .string ⟨e.n.toArray⟩, .int .i64 0, .int .i64 0, .slice pe e.xs.length ce] 32)).alloc (.cells #[.int .i64 0, .int .i64 0, .int .i64 0, .int .i64 0, .string ⟨#[]⟩, .string ⟨#[]⟩, .string ⟨#[]⟩, .int .i64 0, .int .i64 0, .slice none 0 0] 32)) (w.heap.size + 1) e pe ce from e3)
  have HOx := hid (show ((((w.setCell ⟨rb, 1, none⟩ (.int .i64 (J + 1))).alloc (.cells #[.int .i64 o.kind, .int .i64 o.op, .int .i64 o.tok, .string ⟨o.txt.toArray⟩, .int .i64 o.line] 87)).alloc (.cells #[.int .i64 e.k, .int .i64 e.op, .int .i64 e.v.k, .int .i64 e.v.n, .string e.v.s, .string ⟨e.t.toArray⟩, .string ⟨e.n.toArray⟩, .int .i64 0, .int .i64 0, .slice pe e.xs.length ce] 32)).alloc (.cells #[.int .i64 0, .int .i64 0, .int .i64 0, .int .i64 0, .string ⟨#[]⟩, .string ⟨#[]⟩, .string ⟨#[]⟩, .int .i64 0, .int .i64 0, .slice none 0 0] 32)).heap[w.heap.size]? = some (.cells #[.int .i64 o.kind, .int .i64 o.op, .int .i64 o.tok, .string ⟨o.txt.toArray⟩, .int .i64 o.line] 87 (0, 0)) from e2)
  have HH := hid h
  have HEL := hid hE
  have HC := hid hP
  clear hs1 e2 e3 e4 h hE hP hl hlp hsz
  unfold LineOk RdE at HC
  unfold RdE
  have HC2 := hid (fun w' (r : RS w' rb p c xs l.tail d) => HC.out w' _ r)
  clear HC
  cases hp : P l.tail with
  | error x =>
    rw [hp] at HC2
    simp only [] at HC2 ⊢
    have HC := hid (fun w' (_ : Unit) (r : RS w' rb p c xs l.tail d) => HC2.out w' r)
    clear HC2 hp
    go_enter Tryz.func71, Tryz.ntmps71
    go_upto_region 2 with fail
    generalize hWW : World.alloc _ _ = W at *
    clear hWW
    have HS : Hid (∀ w', Chg (· = rb) W w' → w'.cell? ⟨w.heap.size, 0, none⟩ = some (.int .i64 o.kind) ∧ w'.cell? ⟨w.heap.size, 1, none⟩ = some (.int .i64 o.op) ∧ w'.cell? ⟨w.heap.size + 1, 0, none⟩ = some (.int .i64 e.k) ∧ w'.cell? ⟨w.heap.size + 1, 1, none⟩ = some (.int .i64 e.op) ∧ w'.cell? ⟨w.heap.size + 1, 2, none⟩ = some (.int .i64 e.v.k) ∧ w'.cell? ⟨w.heap.size + 1, 3, none⟩ = some (.int .i64 e.v.n) ∧ w'.cell? ⟨w.heap.size + 1, 4, none⟩ = some (.string e.v.s) ∧ w'.cell? ⟨w.heap.size + 1, 5, none⟩ = some (.string ⟨e.t.toArray⟩) ∧ w'.cell? ⟨w.heap.size + 1, 6, none⟩ = some (.string ⟨e.n.toArray⟩) ∧ w'.cell? ⟨w.heap.size + 1, 7, none⟩ = some (.int .i64 0) ∧ w'.cell? ⟨w.heap.size + 1, 8, none⟩ = some (.int .i64 0) ∧ w'.cell? ⟨w.heap.size + 1, 9, none⟩ = some (.slice pe e.xs.length ce)) := fun w' C => by
      have hx := (HBX.out.chg C (show ¬ (w.heap.size + 1 = rb) by omega)).xc
      have ho := (C.block w.heap.size (by omega) (show ¬ (w.heap.size = rb) by omega)).trans HOx.out
      exact ⟨by rw [Lib.cell_of_heap ho]; rfl, by rw [Lib.cell_of_heap ho]; rfl, hx⟩
    have CC : Chg (· = rb) W W.drew := (Chg.refl _ _).drew
    have CC0 := hid (show Below W.heap.size W W.drew from (Below.refl _ _).drew)
    have hVs0 : W.drew.heap.size = w.heap.size + 3 := hs4
    refine wp_region_z (z := 9) (S := fun w' => w'.cell? ⟨w.heap.size, 0, none⟩ = some (.int .i64 o.kind) ∧ w'.cell? ⟨w.heap.size, 1, none⟩ = some (.int .i64 o.op) ∧ w'.cell? ⟨w.heap.size + 1, 0, none⟩ = some (.int .i64 e.k) ∧ w'.cell? ⟨w.heap.size + 1, 1, none⟩ = some (.int .i64 e.op) ∧ w'.cell? ⟨w.heap.size + 1, 2, none⟩ = some (.int .i64 e.v.k) ∧ w'.cell? ⟨w.heap.size + 1, 3, none⟩ = some (.int .i64 e.v.n) ∧ w'.cell? ⟨w.heap.size + 1, 4, none⟩ = some (.string e.v.s) ∧ w'.cell? ⟨w.heap.size + 1, 5, none⟩ = some (.string ⟨e.t.toArray⟩) ∧ w'.cell? ⟨w.heap.size + 1, 6, none⟩ = some (.string ⟨e.n.toArray⟩) ∧ w'.cell? ⟨w.heap.size + 1, 7, none⟩ = some (.int .i64 0) ∧ w'.cell? ⟨w.heap.size + 1, 8, none⟩ = some (.int .i64 0) ∧ w'.cell? ⟨w.heap.size + 1, 9, none⟩ = some (.slice pe e.xs.length ce)) (by kernel_rfl) (HS.out _ CC) (fun hHeld => ?_)
    generalize hV : W.drew = V at *
    clear hV
    have HRV := hid (HRW.out.below CC0.out)
    have hVs : V.heap.size = w.heap.size + 3 := hVs0
    clear CC0 hVs0
    refine wpZ_take (i := 0) (t := 18) (v := ?_) rfl rfl (by kernel_rfl) (by kernel_rfl) (by kernel_rfl) (by kernel_rfl) (fun _ _ _ h => h) (Or.inl ⟨by rfl, ?_⟩) (by assumption) ?_
    rotate_left
    · intro wq hSw
      try dsimp only at hSw
      go_simp
      try with_reducible rfl
    try go_frame
    refine wpZ_take (i := 1) (t := 19) (v := ?_) rfl rfl (by kernel_rfl) (by kernel_rfl) (by kernel_rfl) (by kernel_rfl) (fun _ _ _ h => h) (Or.inl ⟨by rfl, ?_⟩) (by assumption) ?_
    rotate_left
    · intro wq hSw
      try dsimp only at hSw
      go_simp
      try with_reducible rfl
    try go_frame
    refine wpZ_take (i := 2) (t := 20) (v := ?_) rfl rfl (by kernel_rfl) (by kernel_rfl) (by kernel_rfl) (by kernel_rfl) (fun _ _ _ h => h) (Or.inl ⟨by rfl, ?_⟩) (by assumption) ?_
    rotate_left
    · intro wq hSw
      try dsimp only at hSw
      go_simp
      try with_reducible rfl
    try go_frame
    refine wpZ_take (i := 3) (t := 21) (v := ?_) rfl rfl (by kernel_rfl) (by kernel_rfl) (by kernel_rfl) (by kernel_rfl) (fun _ _ _ h => h) (Or.inl ⟨by rfl, ?_⟩) (by assumption) ?_
    rotate_left
    · intro wq hSw
      try dsimp only at hSw
      go_simp
      try with_reducible rfl
    try go_frame
    refine wpZ_take (i := 4) (t := 22) (v := ?_) rfl rfl (by kernel_rfl) (by kernel_rfl) (by kernel_rfl) (by kernel_rfl) (fun _ _ _ h => h) (Or.inl ⟨by rfl, ?_⟩) (by assumption) ?_
    rotate_left
    · intro wq hSw
      try dsimp only at hSw
      go_simp
      try with_reducible rfl
    try go_frame
    refine wpZ_take (i := 5) (t := 23) (v := ?_) rfl rfl (by kernel_rfl) (by kernel_rfl) (by kernel_rfl) (by kernel_rfl) (fun _ _ _ h => h) (Or.inl ⟨by rfl, ?_⟩) (by assumption) ?_
    rotate_left
    · intro wq hSw
      try dsimp only at hSw
      go_simp
      try with_reducible rfl
    try go_frame
    refine wpZ_step (i := 6) (by kernel_rfl) rfl (fun K hK => ?_)
    go_simp
    go_wp2_with (first | (with_reducible refine (HC.out _ () HRV.out).mono ?_; rintro e2 w2 ⟨c2, b2, rfl, f2⟩) | fail)
    exact ⟨rfl, chg_trans HCW.out (chg_trans CC c2), b2, rfl, f2⟩
  | ok y =>
    obtain ⟨y, r⟩ := y
    rw [hp] at HC2
    simp only [] at HC2 ⊢
    unfold QX QF at HC2
    have HC := hid (fun w' (_ : Unit) (r : RS w' rb p c xs l.tail d) => HC2.out w' r)
    clear HC2 hp
    go_enter Tryz.func71, Tryz.ntmps71
    go_upto_region 2 with fail
    generalize hWW : World.alloc _ _ = W at *
    clear hWW
    have HS : Hid (∀ w', Chg (· = rb) W w' → w'.cell? ⟨w.heap.size, 0, none⟩ = some (.int .i64 o.kind) ∧ w'.cell? ⟨w.heap.size, 1, none⟩ = some (.int .i64 o.op) ∧ w'.cell? ⟨w.heap.size + 1, 0, none⟩ = some (.int .i64 e.k) ∧ w'.cell? ⟨w.heap.size + 1, 1, none⟩ = some (.int .i64 e.op) ∧ w'.cell? ⟨w.heap.size + 1, 2, none⟩ = some (.int .i64 e.v.k) ∧ w'.cell? ⟨w.heap.size + 1, 3, none⟩ = some (.int .i64 e.v.n) ∧ w'.cell? ⟨w.heap.size + 1, 4, none⟩ = some (.string e.v.s) ∧ w'.cell? ⟨w.heap.size + 1, 5, none⟩ = some (.string ⟨e.t.toArray⟩) ∧ w'.cell? ⟨w.heap.size + 1, 6, none⟩ = some (.string ⟨e.n.toArray⟩) ∧ w'.cell? ⟨w.heap.size + 1, 7, none⟩ = some (.int .i64 0) ∧ w'.cell? ⟨w.heap.size + 1, 8, none⟩ = some (.int .i64 0) ∧ w'.cell? ⟨w.heap.size + 1, 9, none⟩ = some (.slice pe e.xs.length ce)) := fun w' C => by
      have hx := (HBX.out.chg C (show ¬ (w.heap.size + 1 = rb) by omega)).xc
      have ho := (C.block w.heap.size (by omega) (show ¬ (w.heap.size = rb) by omega)).trans HOx.out
      exact ⟨by rw [Lib.cell_of_heap ho]; rfl, by rw [Lib.cell_of_heap ho]; rfl, hx⟩
    have CC : Chg (· = rb) W W.drew := (Chg.refl _ _).drew
    have CC0 := hid (show Below W.heap.size W W.drew from (Below.refl _ _).drew)
    have hVs0 : W.drew.heap.size = w.heap.size + 3 := hs4
    refine wp_region_z (z := 9) (S := fun w' => w'.cell? ⟨w.heap.size, 0, none⟩ = some (.int .i64 o.kind) ∧ w'.cell? ⟨w.heap.size, 1, none⟩ = some (.int .i64 o.op) ∧ w'.cell? ⟨w.heap.size + 1, 0, none⟩ = some (.int .i64 e.k) ∧ w'.cell? ⟨w.heap.size + 1, 1, none⟩ = some (.int .i64 e.op) ∧ w'.cell? ⟨w.heap.size + 1, 2, none⟩ = some (.int .i64 e.v.k) ∧ w'.cell? ⟨w.heap.size + 1, 3, none⟩ = some (.int .i64 e.v.n) ∧ w'.cell? ⟨w.heap.size + 1, 4, none⟩ = some (.string e.v.s) ∧ w'.cell? ⟨w.heap.size + 1, 5, none⟩ = some (.string ⟨e.t.toArray⟩) ∧ w'.cell? ⟨w.heap.size + 1, 6, none⟩ = some (.string ⟨e.n.toArray⟩) ∧ w'.cell? ⟨w.heap.size + 1, 7, none⟩ = some (.int .i64 0) ∧ w'.cell? ⟨w.heap.size + 1, 8, none⟩ = some (.int .i64 0) ∧ w'.cell? ⟨w.heap.size + 1, 9, none⟩ = some (.slice pe e.xs.length ce)) (by kernel_rfl) (HS.out _ CC) (fun hHeld => ?_)
    generalize hV : W.drew = V at *
    clear hV
    have HRV := hid (HRW.out.below CC0.out)
    have hVs : V.heap.size = w.heap.size + 3 := hVs0
    clear CC0 hVs0
    refine wpZ_take (i := 0) (t := 18) (v := ?_) rfl rfl (by kernel_rfl) (by kernel_rfl) (by kernel_rfl) (by kernel_rfl) (fun _ _ _ h => h) (Or.inl ⟨by rfl, ?_⟩) (by assumption) ?_
    rotate_left
    · intro wq hSw
      try dsimp only at hSw
      go_simp
      try with_reducible rfl
    try go_frame
    refine wpZ_take (i := 1) (t := 19) (v := ?_) rfl rfl (by kernel_rfl) (by kernel_rfl) (by kernel_rfl) (by kernel_rfl) (fun _ _ _ h => h) (Or.inl ⟨by rfl, ?_⟩) (by assumption) ?_
    rotate_left
    · intro wq hSw
      try dsimp only at hSw
      go_simp
      try with_reducible rfl
    try go_frame
    refine wpZ_take (i := 2) (t := 20) (v := ?_) rfl rfl (by kernel_rfl) (by kernel_rfl) (by kernel_rfl) (by kernel_rfl) (fun _ _ _ h => h) (Or.inl ⟨by rfl, ?_⟩) (by assumption) ?_
    rotate_left
    · intro wq hSw
      try dsimp only at hSw
      go_simp
      try with_reducible rfl
    try go_frame
    refine wpZ_take (i := 3) (t := 21) (v := ?_) rfl rfl (by kernel_rfl) (by kernel_rfl) (by kernel_rfl) (by kernel_rfl) (fun _ _ _ h => h) (Or.inl ⟨by rfl, ?_⟩) (by assumption) ?_
    rotate_left
    · intro wq hSw
      try dsimp only at hSw
      go_simp
      try with_reducible rfl
    try go_frame
    refine wpZ_take (i := 4) (t := 22) (v := ?_) rfl rfl (by kernel_rfl) (by kernel_rfl) (by kernel_rfl) (by kernel_rfl) (fun _ _ _ h => h) (Or.inl ⟨by rfl, ?_⟩) (by assumption) ?_
    rotate_left
    · intro wq hSw
      try dsimp only at hSw
      go_simp
      try with_reducible rfl
    try go_frame
    refine wpZ_take (i := 5) (t := 23) (v := ?_) rfl rfl (by kernel_rfl) (by kernel_rfl) (by kernel_rfl) (by kernel_rfl) (fun _ _ _ h => h) (Or.inl ⟨by rfl, ?_⟩) (by assumption) ?_
    rotate_left
    · intro wq hSw
      try dsimp only at hSw
      go_simp
      try with_reducible rfl
    try go_frame
    refine wpZ_step (i := 6) (by kernel_rfl) rfl (fun K hK => ?_)
    go_simp
    go_wp2_with (first | (with_reducible refine (HC.out _ () HRV.out).mono ?_; rintro e2 w2 ⟨c2, v2, rfl, ⟨p2, cp2, rfl, k2, E2⟩, r2⟩; replace CC := chg_trans CC c2; have HE2 := hid E2; have HR2 := hid r2; clear c2 E2 r2) | fail)
    refine hK.out _ _ (fun _ => HS.out _ CC) (fun hHeldN => ?_)
    replace hHeld := hHeldN (by decide)
    clear hK K hHeldN
    try go_frame
    refine wpZ_step (i := 7) (by kernel_rfl) rfl (fun K hK => ?_)
    go_simp
    have HC2 := hid CC
    replace CC := CC.alloc (.cells #[.int .i64 e.k, .int .i64 e.op, .int .i64 e.v.k, .int .i64 e.v.n, .string e.v.s, .string ⟨e.t.toArray⟩, .string ⟨e.n.toArray⟩, .int .i64 0, .int .i64 0, .slice pe e.xs.length ce, .int .i64 y.k, .int .i64 y.op, .int .i64 y.v.k, .int .i64 y.v.n, .string y.v.s, .string ⟨y.t.toArray⟩, .string ⟨y.n.toArray⟩, .int .i64 0, .int .i64 0, .slice p2 y.xs.length cp2] 32)
    refine hK.out _ _ (fun _ => HS.out _ CC) (fun hHeldN => ?_)
    replace hHeld := hHeldN (by decide)
    clear hK K hHeldN
    try go_frame
    refine wpZ_take (i := 8) (t := 26) (v := ?_) rfl rfl (by kernel_rfl) (by kernel_rfl) (by kernel_rfl) (by kernel_rfl) (fun _ _ _ h => h) (Or.inl ⟨by rfl, ?_⟩) (by assumption) ?_
    rotate_left
    · intro wq hSw
      try dsimp only at hSw
      go_simp
      try with_reducible rfl
    try go_frame
    refine wpZ_step (i := 9) (by kernel_rfl) rfl (fun K hK => ?_)
    have HRes := hid (HRes0.out.chg CC (show ¬ (w.heap.size + 2 = rb) by omega))
    obtain ⟨z0, z1, z2, z3, z4, z5, z6, z7, z8, z9⟩ := HRes.out.cells
    have zf := HRes.out.frozen
    go_simp
    refine hK.out _ _ (fun h => absurd rfl h) (fun _ => ?_)
    clear hK K
    refine wpZ_done (by kernel_rfl) ?_
    go_wp2
    refine bodyPost_ret (by simp [results, Tryz.results71, go_sem, z0, z1, z2, z3, z4, z5, z6, z7, z8, z9]; try rfl) rfl ?_
    have hg := heap_alloc_new w2 (.cells #[.int .i64 e.k, .int .i64 e.op, .int .i64 e.v.k, .int .i64 e.v.n, .string e.v.s, .string ⟨e.t.toArray⟩, .string ⟨e.n.toArray⟩, .int .i64 0, .int .i64 0, .slice pe e.xs.length ce, .int .i64 y.k, .int .i64 y.op, .int .i64 y.v.k, .int .i64 y.v.n, .string y.v.s, .string ⟨y.t.toArray⟩, .string ⟨y.n.toArray⟩, .int .i64 0, .int .i64 0, .slice p2 y.xs.length cp2] 32)
    have CW := chg_trans HCW.out CC
    have hw2 : w.heap.size + 3 ≤ w2.heap.size := by have := HC2.out.size; omega
    obtain ⟨k', hk'⟩ := mk_two o.kind o.op (F := fun j => (F j ∨ w.heap.size ≤ j) ∧ j ≠ w.heap.size + 2) (show (F w2.heap.size ∨ w.heap.size ≤ w2.heap.size) ∧ w2.heap.size ≠ w.heap.size + 2 from ⟨Or.inr (by omega), by omega⟩) hg (HEL.out.keep CW hF (fun j q r => ⟨Or.inl q, by omega⟩)) (HE2.out.newer (albl _ _) (fun j q => ⟨Or.inr (by omega), by omega⟩))
    exact finX (e := mkE o.kind o.op [e, y]) HH.out CW (by omega) (HR2.out.below (albl _ _)) hk'
end Go.Proofs.YtfhhigablibeoaaGreatDoor
