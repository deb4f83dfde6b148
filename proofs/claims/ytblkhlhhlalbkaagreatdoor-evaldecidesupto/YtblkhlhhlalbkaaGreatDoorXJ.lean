/- What with of the reader of package expr does. Conditions: none. What a row's function of package expr does. Conditions: none. What Same of package expr answers: whether two expressions are equal. Conditions: lists within the reach. -/
import Derived.Test.YtblkhlhhlalbkaaGreatDoorXA
namespace Go.Proofs.YtblkhlhhlalbkaaGreatDoor
open Go.RowKit Go.Lib Go.Sort
set_option linter.unusedVariables false
set_option maxRecDepth 20000

set_option maxHeartbeats 16000000 in
theorem with_any {w : World} {F : Nat → Prop} {rb : Nat} {p : Option Addr} {c : Nat} {xs l : Ts} {d G : Nat} {fs cs : Array Value} {P : Ts → Rd Ex} (o : Opr) (e : Ex) (pe : Option Addr) (ce k : Nat) (h : RS w rb p c xs l d) (hl : l ≠ []) (hen : ∀ args w, (callFunc G args).run Tryz.prog w = .ok (.enter G args) w) (hP : LineOk rb p c xs d G (fs ++ cs) P) (hF : ∀ j, F j → j ≠ rb) (hE : EAt w F k e pe) (hce : e.xs.length ≤ ce) :
    Calls Tryz.prog 143 #[.pointer (some ⟨rb, 0, none⟩), .agg #[.int .i64 o.kind, .int .i64 o.op, .int .i64 o.tok, .string ⟨o.txt.toArray⟩, .int .i64 o.line], .agg #[.int .i64 e.k, .int .i64 e.op, .int .i64 e.v.k, .int .i64 e.v.n, .string e.v.s, .string ⟨e.t.toArray⟩, .string ⟨e.n.toArray⟩, .int .i64 0, .int .i64 0, .slice pe e.xs.length ce], .func (.func G) fs cs] w (RdE (QF (fun j => F j ∨ w.heap.size ≤ j)) rb p c xs d (match P l.tail with | .error x => .error x | .ok y => .ok (mkE o.kind o.op [e, y.1], y.2)) w) := by
  have hlt := h.lt
  have c1 := h.c1
  have f1 := h.f 1
  have hlt1 : rb < w.heap.size + 1 := by omega
  have hlt2 : rb < w.heap.size + 1 + 1 := by omega
  have hsz := h.suf.length_le
  have hlen := h.len
  have hlp : 0 < l.length := List.length_pos_iff.2 hl
  have hw : IntKind.i64.wrap ((xs.length : Int) - (l.length : Int) + 1) = (xs.length : Int) - (l.length : Int) + 1 := by rw [IntKind.wrap_i64]; omega
  have HX : Hid ((xs.length : Int) - (l.length : Int) + 1 = (xs.length : Int) - (l.tail.length : Int)) := by show _ = _; rw [List.length_tail]; omega
  generalize hJ : (xs.length : Int) - (l.length : Int) = J at c1 hw HX
  clear hJ
  have HRW := hid ((((h.mv (suf_tail.trans h.suf) (J + 1) HX.out).below (albl _ (.cells #[.int .i64 o.kind, .int .i64 o.op, .int .i64 o.tok, .string ⟨o.txt.toArray⟩, .int .i64 o.line] 132))).below (albl _ (.cells #[.int .i64 e.k, .int .i64 e.op, .int .i64 e.v.k, .int .i64 e.v.n, .string e.v.s, .string ⟨e.t.toArray⟩, .string ⟨e.n.toArray⟩, .int .i64 0, .int .i64 0, .slice pe e.xs.length ce] 26))).below (albl _ (.cells #[.int .i64 0, .int .i64 0, .int .i64 0, .int .i64 0, .string ⟨#[]⟩, .string ⟨#[]⟩, .string ⟨#[]⟩, .int .i64 0, .int .i64 0, .slice none 0 0] 26)))
  have HCW : Hid (Chg (· = rb) w ((((w.setCell ⟨rb, 1, none⟩ (.int .i64 (J + 1))).alloc (.cells #[.int .i64 o.kind, .int .i64 o.op, .int .i64 o.tok, .string ⟨o.txt.toArray⟩, .int .i64 o.line] 132)).alloc (.cells #[.int .i64 e.k, .int .i64 e.op, .int .i64 e.v.k, .int .i64 e.v.n, .string e.v.s, .string ⟨e.t.toArray⟩, .string ⟨e.n.toArray⟩, .int .i64 0, .int .i64 0, .slice pe e.xs.length ce] 26)).alloc (.cells #[.int .i64 0, .int .i64 0, .int .i64 0, .int .i64 0, .string ⟨#[]⟩, .string ⟨#[]⟩, .string ⟨#[]⟩, .int .i64 0, .int .i64 0, .slice none 0 0] 26))) := (((chg_set (Chg.refl _ _) _).alloc _).alloc _).alloc _
  have hs1 : (w.setCell ⟨rb, 1, none⟩ (.int .i64 (J + 1))).heap.size = w.heap.size := by simp [World.setCell]
  obtain ⟨hs4, e2, e3, e4⟩ := alc3 (w.setCell ⟨rb, 1, none⟩ (.int .i64 (J + 1))) (.cells #[.int .i64 o.kind, .int .i64 o.op, .int .i64 o.tok, .string ⟨o.txt.toArray⟩, .int .i64 o.line] 132) (.cells #[.int .i64 e.k, .int .i64 e.op, .int .i64 e.v.k, .int .i64 e.v.n, .string e.v.s, .string ⟨e.t.toArray⟩, .string ⟨e.n.toArray⟩, .int .i64 0, .int .i64 0, .slice pe e.xs.length ce] 26) (.cells #[.int .i64 0, .int .i64 0, .int .i64 0, .int .i64 0, .string ⟨#[]⟩, .string ⟨#[]⟩, .string ⟨#[]⟩, .int .i64 0, .int .i64 0, .slice none 0 0] 26)
  rw [hs1] at hs4 e2 e3 e4
  have HRes0 := hid (show ResX ((((w.setCell ⟨rb, 1, none⟩ (.int .i64 (J + 1))).alloc (.cells #[.int .i64 o.kind, .int .i64 o.op, .int .i64 o.tok, .string ⟨o.txt.toArray⟩, .int .i64 o.line] 132)).alloc (.cells #[.int .i64 e.k, .int .i64 e.op, .int .i64 e.v.k, .int .i64 e.v.n, .string e.v.s, .string ⟨e.t.toArray⟩, .string ⟨e.n.toArray⟩, .int .i64 0, .int .i64 0, .slice pe e.xs.length ce] 26)).alloc (.cells #[.int .i64 0, .int .i64 0, .int .i64 0, .int .i64 0, .string ⟨#[]⟩, .string ⟨#[]⟩, .string ⟨#[]⟩, .int .i64 0, .int .i64 0, .slice none 0 0] 26)) (w.heap.size + 2) from e4)
  have HBX := hid (show BX ((((w.setCell ⟨rb, 1, none⟩ (.int .i64 (J + 1))).alloc (.cells #[.int .i64 o.kind, .int .i64 o.op, .int .i64 o.tok, .string ⟨o.txt.toArray⟩, .int .i64 o.line] 132)).alloc (.cells #[.int .i64 e.k, .int .i64 e.op, .int .i64 e.v.k, .int .i64 e.v.n, .string e.v.s, .string ⟨e.t.toArray⟩, .string ⟨e.n.toArray⟩, .int .i64 0, .int .i64 0, .slice pe e.xs.length ce] 26)).alloc (.cells #[.int .i64 0, .int .i64 0, .int .i64 0, .int .i64 0, .string ⟨#[]⟩, .string ⟨#[]⟩, .string ⟨#[]⟩, .int .i64 0, .int .i64 0, .slice none 0 0] 26)) (w.heap.size + 1) e pe ce from e3)
  have HOx := hid (show ((((w.setCell ⟨rb, 1, none⟩ (.int .i64 (J + 1))).alloc (.cells #[.int .i64 o.kind, .int .i64 o.op, .int .i64 o.tok, .string ⟨o.txt.toArray⟩, .int .i64 o.line] 132)).alloc (.cells #[.int .i64 e.k, .int .i64 e.op, .int .i64 e.v.k, .int .i64 e.v.n, .string e.v.s, .string ⟨e.t.toArray⟩, .string ⟨e.n.toArray⟩, .int .i64 0, .int .i64 0, .slice pe e.xs.length ce] 26)).alloc (.cells #[.int .i64 0, .int .i64 0, .int .i64 0, .int .i64 0, .string ⟨#[]⟩, .string ⟨#[]⟩, .string ⟨#[]⟩, .int .i64 0, .int .i64 0, .slice none 0 0] 26)).heap[w.heap.size]? = some (.cells #[.int .i64 o.kind, .int .i64 o.op, .int .i64 o.tok, .string ⟨o.txt.toArray⟩, .int .i64 o.line] 132 (0, 0)) from e2)
  have HH := hid h
  have HEL := hid hE
  have HC := hid hP
  clear hs1 e2 e3 e4 h hE hP hl hlp hsz
  unfold LineOk RdE at HC
  unfold RdE
  have HC2 := hid (fun w' (r : RS w' rb p c xs l.tail d) => HC.out w' _ r)
  clear HC
  cases hp : P l.tail with
  | error x =>
    rw [hp] at HC2
    simp only [] at HC2 ⊢
    have HC := hid (fun w' (_ : Unit) (r : RS w' rb p c xs l.tail d) => HC2.out w' r)
    clear HC2 hp
    go_enter Tryz.func143, Tryz.ntmps143
    go_upto_region 2 with fail
    generalize hWW : World.alloc _ _ = W at *
    clear hWW
    have HS : Hid (∀ w', Chg (· = rb) W w' → w'.cell? ⟨w.heap.size, 0, none⟩ = some (.int .i64 o.kind) ∧ w'.cell? ⟨w.heap.size, 1, none⟩ = some (.int .i64 o.op) ∧ w'.cell? ⟨w.heap.size + 1, 0, none⟩ = some (.int .i64 e.k) ∧ w'.cell? ⟨w.heap.size + 1, 1, none⟩ = some (.int .i64 e.op) ∧ w'.cell? ⟨w.heap.size + 1, 2, none⟩ = some (.int .i64 e.v.k) ∧ w'.cell? ⟨w.heap.size + 1, 3, none⟩ = some (.int .i64 e.v.n) ∧ w'.cell? ⟨w.heap.size + 1, 4, none⟩ = some (.string e.v.s) ∧ w'.cell? ⟨w.heap.size + 1, 5, none⟩ = some (.string ⟨e.t.toArray⟩) ∧ w'.cell? ⟨w.heap.size + 1, 6, none⟩ = some (.string ⟨e.n.toArray⟩) ∧ w'.cell? ⟨w.heap.size + 1, 7, none⟩ = some (.int .i64 0) ∧ w'.cell? ⟨w.heap.size + 1, 8, none⟩ = some (.int .i64 0) ∧ w'.cell? ⟨w.heap.size + 1, 9, none⟩ = some (.slice pe e.xs.length ce)) := fun w' C => by
      have hx := (HBX.out.chg C (show ¬ (w.heap.size + 1 = rb) by omega)).xc
      have ho := (C.block w.heap.size (by omega) (show ¬ (w.heap.size = rb) by omega)).trans HOx.out
      exact ⟨by rw [Lib.cell_of_heap ho]; rfl, by rw [Lib.cell_of_heap ho]; rfl, hx⟩
    have CC : Chg (· = rb) W W.drew := (Chg.refl _ _).drew
    have CC0 := hid (show Below W.heap.size W W.drew from (Below.refl _ _).drew)
    have hVs0 : W.drew.heap.size = w.heap.size + 3 := hs4
    refine wp_region_z (z := 9) (S := fun w' => w'.cell? ⟨w.heap.size, 0, none⟩ = some (.int .i64 o.kind) ∧ w'.cell? ⟨w.heap.size, 1, none⟩ = some (.int .i64 o.op) ∧ w'.cell? ⟨w.heap.size + 1, 0, none⟩ = some (.int .i64 e.k) ∧ w'.cell? ⟨w.heap.size + 1, 1, none⟩ = some (.int .i64 e.op) ∧ w'.cell? ⟨w.heap.size + 1, 2, none⟩ = some (.int .i64 e.v.k) ∧ w'.cell? ⟨w.heap.size + 1, 3, none⟩ = some (.int .i64 e.v.n) ∧ w'.cell? ⟨w.heap.size + 1, 4, none⟩ = some (.string e.v.s) ∧ w'.cell? ⟨w.heap.size + 1, 5, none⟩ = some (.string ⟨e.t.toArray⟩) ∧ w'.cell? ⟨w.heap.size + 1, 6, none⟩ = some (.string ⟨e.n.toArray⟩) ∧ w'.cell? ⟨w.heap.size + 1, 7, none⟩ = some (.int .i64 0) ∧ w'.cell? ⟨w.heap.size + 1, 8, none⟩ = some (.int .i64 0) ∧ w'.cell? ⟨w.heap.size + 1, 9, none⟩ = some (.slice pe e.xs.length ce)) (by kernel_rfl) (HS.out _ CC) (fun hHeld => ?_)
    generalize hV : W.drew = V at *
    clear hV
    have HRV := hid (HRW.out.below CC0.out)
    have hVs : V.heap.size = w.heap.size + 3 := hVs0
    clear CC0 hVs0
    refine wpZ_take (i := 0) (t := 18) (v := ?_) rfl rfl (by kernel_rfl) (by kernel_rfl) (by kernel_rfl) (by kernel_rfl) (fun _ _ _ h => h) (Or.inl ⟨by rfl, ?_⟩) (by assumption) ?_
    rotate_left
    · intro wq hSw
      try dsimp only at hSw
      go_simp
      try with_reducible rfl
    try go_frame
    refine wpZ_take (i := 1) (t := 19) (v := ?_) rfl rfl (by kernel_rfl) (by kernel_rfl) (by kernel_rfl) (by kernel_rfl) (fun _ _ _ h => h) (Or.inl ⟨by rfl, ?_⟩) (by assumption) ?_
    rotate_left
    · intro wq hSw
      try dsimp only at hSw
      go_simp
      try with_reducible rfl
    try go_frame
    refine wpZ_take (i := 2) (t := 20) (v := ?_) rfl rfl (by kernel_rfl) (by kernel_rfl) (by kernel_rfl) (by kernel_rfl) (fun _ _ _ h => h) (Or.inl ⟨by rfl, ?_⟩) (by assumption) ?_
    rotate_left
    · intro wq hSw
      try dsimp only at hSw
      go_simp
      try with_reducible rfl
    try go_frame
    refine wpZ_take (i := 3) (t := 21) (v := ?_) rfl rfl (by kernel_rfl) (by kernel_rfl) (by kernel_rfl) (by kernel_rfl) (fun _ _ _ h => h) (Or.inl ⟨by rfl, ?_⟩) (by assumption) ?_
    rotate_left
    · intro wq hSw
      try dsimp only at hSw
      go_simp
      try with_reducible rfl
    try go_frame
    refine wpZ_take (i := 4) (t := 22) (v := ?_) rfl rfl (by kernel_rfl) (by kernel_rfl) (by kernel_rfl) (by kernel_rfl) (fun _ _ _ h => h) (Or.inl ⟨by rfl, ?_⟩) (by assumption) ?_
    rotate_left
    · intro wq hSw
      try dsimp only at hSw
      go_simp
      try with_reducible rfl
    try go_frame
    refine wpZ_take (i := 5) (t := 23) (v := ?_) rfl rfl (by kernel_rfl) (by kernel_rfl) (by kernel_rfl) (by kernel_rfl) (fun _ _ _ h => h) (Or.inl ⟨by rfl, ?_⟩) (by assumption) ?_
    rotate_left
    · intro wq hSw
      try dsimp only at hSw
      go_simp
      try with_reducible rfl
    try go_frame
    refine wpZ_step (i := 6) (by kernel_rfl) rfl (fun K hK => ?_)
    go_simp
    go_wp2_with (first | (with_reducible refine (HC.out _ () HRV.out).mono ?_; rintro e2 w2 ⟨c2, b2, rfl, f2⟩) | fail)
    exact ⟨rfl, chg_trans HCW.out (chg_trans CC c2), b2, rfl, f2⟩
  | ok y =>
    obtain ⟨y, r⟩ := y
    rw [hp] at HC2
    simp only [] at HC2 ⊢
    unfold QX QF at HC2
    have HC := hid (fun w' (_ : Unit) (r : RS w' rb p c xs l.tail d) => HC2.out w' r)
    clear HC2 hp
    go_enter Tryz.func143, Tryz.ntmps143
    go_upto_region 2 with fail
    generalize hWW : World.alloc _ _ = W at *
    clear hWW
    have HS : Hid (∀ w', Chg (· = rb) W w' → w'.cell? ⟨w.heap.size, 0, none⟩ = some (.int .i64 o.kind) ∧ w'.cell? ⟨w.heap.size, 1, none⟩ = some (.int .i64 o.op) ∧ w'.cell? ⟨w.heap.size + 1, 0, none⟩ = some (.int .i64 e.k) ∧ w'.cell? ⟨w.heap.size + 1, 1, none⟩ = some (.int .i64 e.op) ∧ w'.cell? ⟨w.heap.size + 1, 2, none⟩ = some (.int .i64 e.v.k) ∧ w'.cell? ⟨w.heap.size + 1, 3, none⟩ = some (.int .i64 e.v.n) ∧ w'.cell? ⟨w.heap.size + 1, 4, none⟩ = some (.string e.v.s) ∧ w'.cell? ⟨w.heap.size + 1, 5, none⟩ = some (.string ⟨e.t.toArray⟩) ∧ w'.cell? ⟨w.heap.size + 1, 6, none⟩ = some (.string ⟨e.n.toArray⟩) ∧ w'.cell? ⟨w.heap.size + 1, 7, none⟩ = some (.int .i64 0) ∧ w'.cell? ⟨w.heap.size + 1, 8, none⟩ = some (.int .i64 0) ∧ w'.cell? ⟨w.heap.size + 1, 9, none⟩ = some (.slice pe e.xs.length ce)) := fun w' C => by
      have hx := (HBX.out.chg C (show ¬ (w.heap.size + 1 = rb) by omega)).xc
      have ho := (C.block w.heap.size (by omega) (show ¬ (w.heap.size = rb) by omega)).trans HOx.out
      exact ⟨by rw [Lib.cell_of_heap ho]; rfl, by rw [Lib.cell_of_heap ho]; rfl, hx⟩
    have CC : Chg (· = rb) W W.drew := (Chg.refl _ _).drew
    have CC0 := hid (show Below W.heap.size W W.drew from (Below.refl _ _).drew)
    have hVs0 : W.drew.heap.size = w.heap.size + 3 := hs4
    refine wp_region_z (z := 9) (S := fun w' => w'.cell? ⟨w.heap.size, 0, none⟩ = some (.int .i64 o.kind) ∧ w'.cell? ⟨w.heap.size, 1, none⟩ = some (.int .i64 o.op) ∧ w'.cell? ⟨w.heap.size + 1, 0, none⟩ = some (.int .i64 e.k) ∧ w'.cell? ⟨w.heap.size + 1, 1, none⟩ = some (.int .i64 e.op) ∧ w'.cell? ⟨w.heap.size + 1, 2, none⟩ = some (.int .i64 e.v.k) ∧ w'.cell? ⟨w.heap.size + 1, 3, none⟩ = some (.int .i64 e.v.n) ∧ w'.cell? ⟨w.heap.size + 1, 4, none⟩ = some (.string e.v.s) ∧ w'.cell? ⟨w.heap.size + 1, 5, none⟩ = some (.string ⟨e.t.toArray⟩) ∧ w'.cell? ⟨w.heap.size + 1, 6, none⟩ = some (.string ⟨e.n.toArray⟩) ∧ w'.cell? ⟨w.heap.size + 1, 7, none⟩ = some (.int .i64 0) ∧ w'.cell? ⟨w.heap.size + 1, 8, none⟩ = some (.int .i64 0) ∧ w'.cell? ⟨w.heap.size + 1, 9, none⟩ = some (.slice pe e.xs.length ce)) (by kernel_rfl) (HS.out _ CC) (fun hHeld => ?_)
    generalize hV : W.drew = V at *
    clear hV
    have HRV := hid (HRW.out.below CC0.out)
    have hVs : V.heap.size = w.heap.size + 3 := hVs0
    clear CC0 hVs0
    refine wpZ_take (i := 0) (t := 18) (v := ?_) rfl rfl (by kernel_rfl) (by kernel_rfl) (by kernel_rfl) (by kernel_rfl) (fun _ _ _ h => h) (Or.inl ⟨by rfl, ?_⟩) (by assumption) ?_
    rotate_left
    · intro wq hSw
      try dsimp only at hSw
      go_simp
      try with_reducible rfl
    try go_frame
    refine wpZ_take (i := 1) (t := 19) (v := ?_) rfl rfl (by kernel_rfl) (by kernel_rfl) (by kernel_rfl) (by kernel_rfl) (fun _ _ _ h => h) (Or.inl ⟨by rfl, ?_⟩) (by assumption) ?_
    rotate_left
    · intro wq hSw
      try dsimp only at hSw
      go_simp
      try with_reducible rfl
    try go_frame
    refine wpZ_take (i := 2) (t := 20) (v := ?_) rfl rfl (by kernel_rfl) (by kernel_rfl) (by kernel_rfl) (by kernel_rfl) (fun _ _ _ h => h) (Or.inl ⟨by rfl, ?_⟩) (by assumption) ?_
    rotate_left
    · intro wq hSw
      try dsimp only at hSw
      go_simp
      try with_reducible rfl
    try go_frame
    refine wpZ_take (i := 3) (t := 21) (v := ?_) rfl rfl (by kernel_rfl) (by kernel_rfl) (by kernel_rfl) (by kernel_rfl) (fun _ _ _ h => h) (Or.inl ⟨by rfl, ?_⟩) (by assumption) ?_
    rotate_left
    · intro wq hSw
      try dsimp only at hSw
      go_simp
      try with_reducible rfl
    try go_frame
    refine wpZ_take (i := 4) (t := 22) (v := ?_) rfl rfl (by kernel_rfl) (by kernel_rfl) (by kernel_rfl) (by kernel_rfl) (fun _ _ _ h => h) (Or.inl ⟨by rfl, ?_⟩) (by assumption) ?_
    rotate_left
    · intro wq hSw
      try dsimp only at hSw
      go_simp
      try with_reducible rfl
    try go_frame
    refine wpZ_take (i := 5) (t := 23) (v := ?_) rfl rfl (by kernel_rfl) (by kernel_rfl) (by kernel_rfl) (by kernel_rfl) (fun _ _ _ h => h) (Or.inl ⟨by rfl, ?_⟩) (by assumption) ?_
    rotate_left
    · intro wq hSw
      try dsimp only at hSw
      go_simp
      try with_reducible rfl
    try go_frame
    refine wpZ_step (i := 6) (by kernel_rfl) rfl (fun K hK => ?_)
    go_simp
    go_wp2_with (first | (with_reducible refine (HC.out _ () HRV.out).mono ?_; rintro e2 w2 ⟨c2, v2, rfl, ⟨p2, cp2, rfl, k2, E2, hcp2⟩, r2⟩; replace CC := chg_trans CC c2; have HE2 := hid E2; have HR2 := hid r2; clear c2 E2 r2) | fail)
    refine hK.out _ _ (fun _ => HS.out _ CC) (fun hHeldN => ?_)
    replace hHeld := hHeldN (by decide)
    clear hK K hHeldN
    try go_frame
    refine wpZ_step (i := 7) (by kernel_rfl) rfl (fun K hK => ?_)
    go_simp
    have HC2 := hid CC
    replace CC := CC.alloc (.cells #[.int .i64 e.k, .int .i64 e.op, .int .i64 e.v.k, .int .i64 e.v.n, .string e.v.s, .string ⟨e.t.toArray⟩, .string ⟨e.n.toArray⟩, .int .i64 0, .int .i64 0, .slice pe e.xs.length ce, .int .i64 y.k, .int .i64 y.op, .int .i64 y.v.k, .int .i64 y.v.n, .string y.v.s, .string ⟨y.t.toArray⟩, .string ⟨y.n.toArray⟩, .int .i64 0, .int .i64 0, .slice p2 y.xs.length cp2] 26)
    refine hK.out _ _ (fun _ => HS.out _ CC) (fun hHeldN => ?_)
    replace hHeld := hHeldN (by decide)
    clear hK K hHeldN
    try go_frame
    refine wpZ_take (i := 8) (t := 26) (v := ?_) rfl rfl (by kernel_rfl) (by kernel_rfl) (by kernel_rfl) (by kernel_rfl) (fun _ _ _ h => h) (Or.inl ⟨by rfl, ?_⟩) (by assumption) ?_
    rotate_left
    · intro wq hSw
      try dsimp only at hSw
      go_simp
      try with_reducible rfl
    try go_frame
    refine wpZ_step (i := 9) (by kernel_rfl) rfl (fun K hK => ?_)
    have HRes := hid (HRes0.out.chg CC (show ¬ (w.heap.size + 2 = rb) by omega))
    obtain ⟨z0, z1, z2, z3, z4, z5, z6, z7, z8, z9⟩ := HRes.out.cells
    have zf := HRes.out.frozen
    go_simp
    refine hK.out _ _ (fun h => absurd rfl h) (fun _ => ?_)
    clear hK K
    refine wpZ_done (by kernel_rfl) ?_
    go_wp2
    refine bodyPost_ret (by simp [results, Tryz.results143, go_sem, z0, z1, z2, z3, z4, z5, z6, z7, z8, z9]; try rfl) rfl ?_
    have hg := heap_alloc_new w2 (.cells #[.int .i64 e.k, .int .i64 e.op, .int .i64 e.v.k, .int .i64 e.v.n, .string e.v.s, .string ⟨e.t.toArray⟩, .string ⟨e.n.toArray⟩, .int .i64 0, .int .i64 0, .slice pe e.xs.length ce, .int .i64 y.k, .int .i64 y.op, .int .i64 y.v.k, .int .i64 y.v.n, .string y.v.s, .string ⟨y.t.toArray⟩, .string ⟨y.n.toArray⟩, .int .i64 0, .int .i64 0, .slice p2 y.xs.length cp2] 26)
    have CW := chg_trans HCW.out CC
    have hw2 : w.heap.size + 3 ≤ w2.heap.size := by have := HC2.out.size; omega
    obtain ⟨k', hk'⟩ := mk_two o.kind o.op (F := fun j => (F j ∨ w.heap.size ≤ j) ∧ j ≠ w.heap.size + 2) (show (F w2.heap.size ∨ w.heap.size ≤ w2.heap.size) ∧ w2.heap.size ≠ w.heap.size + 2 from ⟨Or.inr (by omega), by omega⟩) hg (HEL.out.keep CW hF (fun j q r => ⟨Or.inl q, by omega⟩)) (HE2.out.newer (albl _ _) (fun j q => ⟨Or.inr (by omega), by omega⟩)) hce hcp2
    exact finX (e := mkE o.kind o.op [e, y]) HH.out CW (by omega) (HR2.out.below (albl _ _)) hk' (by show 2 ≤ 2; exact Nat.le_refl 2)
end Go.Proofs.YtblkhlhhlalbkaaGreatDoor
namespace Go.Proofs.YtblkhlhhlalbkaaGreatDoor
open Go.RowKit Go.Lib Go.Sort
set_option linter.unusedVariables false
set_option maxRecDepth 20000

/-- An operator's cells in a block. -/
def OX (w : World) (b : Nat) (k o t : Int) (s : ByteArray) (n : Int) : Prop := (w.cell? ⟨b, 0, none⟩ = some (.int .i64 k) ∧ w.cell? ⟨b, 1, none⟩ = some (.int .i64 o) ∧ w.cell? ⟨b, 2, none⟩ = some (.int .i64 t) ∧ w.cell? ⟨b, 3, none⟩ = some (.string s) ∧ w.cell? ⟨b, 4, none⟩ = some (.int .i64 n)) ∧ ∀ i, w.frozen? ⟨b, i, none⟩ = false
theorem OX.chg {F : Nat → Prop} {w w' : World} {b : Nat} {k o t : Int} {s : ByteArray} {n : Int} (h : OX w b k o t s n) (C : Chg F w w') (hn : ¬ F b) : OX w' b k o t s n := by
  obtain ⟨⟨h0, h1, h2, h3, h4⟩, hf⟩ := h
  exact ⟨⟨C.cell h0 hn, C.cell h1 hn, C.cell h2 hn, C.cell h3 hn, C.cell h4 hn⟩, fun i => (C.frozen (p := ⟨b, i, none⟩) (show b < w.heap.size from cell_lt h0) hn).trans (hf i)⟩
theorem OX.new (w : World) (k o t : Int) (s : ByteArray) (n : Int) : OX (w.alloc (.cells #[.int .i64 k, .int .i64 o, .int .i64 t, .string s, .int .i64 n] 132)) w.heap.size k o t s n := by
  have e := heap_alloc_new w (.cells #[.int .i64 k, .int .i64 o, .int .i64 t, .string s, .int .i64 n] 132)
  refine ⟨⟨?_, ?_, ?_, ?_, ?_⟩, fun i => Lib.frozen_of_heap e i⟩ <;> (rw [Lib.cell_of_heap e]; rfl)
/-- Five cells are laid. -/
theorem OX.put {w : World} {b : Nat} {k o t : Int} {s : ByteArray} {n : Int} (h : OX w b k o t s n) (k' o' t' : Int) (s' : ByteArray) (n' : Int) : OX (((((w.setCell ⟨b, 0, none⟩ (.int .i64 k')).setCell ⟨b, 1, none⟩ (.int .i64 o')).setCell ⟨b, 2, none⟩ (.int .i64 t')).setCell ⟨b, 3, none⟩ (.string s')).setCell ⟨b, 4, none⟩ (.int .i64 n')) b k' o' t' s' n' := by
  obtain ⟨⟨h0, h1, h2, h3, h4⟩, hf⟩ := h
  refine ⟨⟨?_, ?_, ?_, ?_, ?_⟩, fun i => ?_⟩
  · simp [go_sem, h0]
  · simp [go_sem, h1]
  · simp [go_sem, h2]
  · simp [go_sem, h3]
  · simp [go_sem, h4]
  · have := hf i; simp [go_sem, this]
theorem put5_chg (w : World) (b : Nat) (v0 v1 v2 v3 v4 : Value) : Chg (· = b) w (((((w.setCell ⟨b, 0, none⟩ v0).setCell ⟨b, 1, none⟩ v1).setCell ⟨b, 2, none⟩ v2).setCell ⟨b, 3, none⟩ v3).setCell ⟨b, 4, none⟩ v4) := by
  have st : ∀ {x y : World} (i : Nat) (v : Value), Chg (· = b) x y → Chg (· = b) x (y.setCell ⟨b, i, none⟩ v) := fun i v h => Chg.setCell (F := (· = b)) (p := ⟨b, i, none⟩) h (Or.inl rfl) v
  exact st 4 _ (st 3 _ (st 2 _ (st 1 _ (st 0 _ (Chg.refl _ _)))))
theorem oprO_form (x : Option Opr) : ∃ k o t s n, oprO x = .agg #[.int .i64 k, .int .i64 o, .int .i64 t, .string s, .int .i64 n] ∧ ∀ y, x = some y → k = y.kind ∧ o = y.op ∧ t = y.tok ∧ s = ⟨y.txt.toArray⟩ ∧ n = y.line := by
  cases x with
  | none => exact ⟨0, 0, 0, ⟨#[]⟩, 0, rfl, fun y h => by cases h⟩
  | some y => exact ⟨_, _, _, _, _, rfl, fun z h => by cases h; exact ⟨rfl, rfl, rfl, rfl, rfl⟩⟩
theorem operator_form {w : World} {rb : Nat} {p : Option Addr} {c : Nat} {xs l : Ts} {d : Nat} (n : Int) (h : RS w rb p c xs l d) : ∃ k o t s m, (∀ y, opAt n l = some y → k = y.kind ∧ o = y.op ∧ t = y.tok ∧ s = ⟨y.txt.toArray⟩ ∧ m = y.line) ∧
    Calls Tryz.prog 132 #[.pointer (some ⟨rb, 0, none⟩), .int .i64 n] w fun e w' => e = .returned (.tuple #[.agg #[.int .i64 k, .int .i64 o, .int .i64 t, .string s, .int .i64 m], .bool (opAt n l).isSome]) ∧ Below w.heap.size w w' := by
  obtain ⟨k, o, t, s, m, e, hy⟩ := oprO_form (opAt n l)
  have := operator_any n h
  rw [e] at this
  exact ⟨k, o, t, s, m, hy, this⟩
theorem BX.put {w : World} {b : Nat} {e e' : Ex} {p p' : Option Addr} {c c' : Nat} (h : BX w b e p c) : BX (put10 w b (.int .i64 e'.k) (.int .i64 e'.op) (.int .i64 e'.v.k) (.int .i64 e'.v.n) (.string e'.v.s) (.string ⟨e'.t.toArray⟩) (.string ⟨e'.n.toArray⟩) (.int .i64 0) (.int .i64 0) (.slice p' e'.xs.length c')) b e' p' c' := by
  unfold put10
  have st : ∀ {x : World} {cs : Array Value} (i : Nat) (v : Value), x.heap[b]? = some (.cells cs 26 (0, 0)) → (x.setCell ⟨b, i, none⟩ v).heap[b]? = some (.cells (cs.setIfInBounds i v) 26 (0, 0)) := fun i v hx => heap_setCell_same _ b i _ _ v hx
  have := st 9 (.slice p' e'.xs.length c') (st 8 (.int .i64 0) (st 7 (.int .i64 0) (st 6 (.string ⟨e'.n.toArray⟩) (st 5 (.string ⟨e'.t.toArray⟩) (st 4 (.string e'.v.s) (st 3 (.int .i64 e'.v.n) (st 2 (.int .i64 e'.v.k) (st 1 (.int .i64 e'.op) (st 0 (.int .i64 e'.k) h)))))))))
  simpa [BX] using this
/-- How many words are left. -/
def meas (xs : Ts) (w : World) (rb : Nat) : Nat := xs.length - (RowKit.intOf ((w.cell? ⟨rb, 1, none⟩).getD (.int .i64 0))).toNat
theorem meas_eq {w : World} {rb : Nat} {p : Option Addr} {c : Nat} {xs l : Ts} {d : Nat} (h : RS w rb p c xs l d) : meas xs w rb = l.length := by
  have h1 := h.suf.length_le
  unfold meas
  rw [h.c1]
  simp only [Option.getD_some, RowKit.intOf]
  omega
/-- What there is in a round of a row. -/
structure RowAt (w0 w : World) (rb : Nat) (p : Option Addr) (c : Nat) (xs : Ts) (d : Nat) (n : Int) (P : Ts → Rd Ex) (R : Rd Ex) (b4 b5 : Nat) (e : Ex) (pe : Option Addr) (ce k f : Nat) (l : Ts) (ok oo ot : Int) (os : ByteArray) (on : Int) : Prop where
  rs : RS w rb p c xs l d
  bx : BX w b4 e pe ce
  ea : EAt w (fun j => w0.heap.size + 1 ≤ j ∧ j ≠ b4) k e pe
  res : ResX w w0.heap.size
  chg : Chg (· = rb) w0 w
  rest : rowL n P f e l = R
  fl : l.length ≤ f
  b45 : w0.heap.size < b4 ∧ b4 < b5
  ox : OX w b5 ok oo ot os on
  oy : ∀ y, opAt n l = some y → ok = y.kind ∧ oo = y.op ∧ ot = y.tok ∧ os = ⟨y.txt.toArray⟩ ∧ on = y.line
  cp : e.xs.length ≤ ce
set_option maxHeartbeats 16000000 in
theorem row_any {rb : Nat} {p : Option Addr} {c : Nat} {xs : Ts} {d G : Nat} {fs cs : Array Value} {P : Ts → Rd Ex} (kb : Nat) (n : Int) (hbox : ∀ w l, RS w rb p c xs l d → w.cell? ⟨rb + kb, 0, none⟩ = some (.pointer (some ⟨rb, 0, none⟩)) ∧ w.cell? ⟨rb + (kb + 1), 0, none⟩ = some (.int .i64 n) ∧ w.cell? ⟨rb + (kb + 2), 0, none⟩ = some (.func (.func G) fs cs)) (hen : ∀ args w, (callFunc G args).run Tryz.prog w = .ok (.enter G args) w) (hP : LineOk rb p c xs d G (fs ++ cs) P) (hSf : Sf P) :
    LineOk rb p c xs d 142 #[rP rb (kb + 2), rP rb kb, rP rb (kb + 1)] (rowP n P) := by
  intro w l h
  have HH := hid h
  have hlt := h.lt
  have H0 := h.below (albl w (.cells #[.int .i64 0, .int .i64 0, .int .i64 0, .int .i64 0, .string ⟨#[]⟩, .string ⟨#[]⟩, .string ⟨#[]⟩, .int .i64 0, .int .i64 0, .slice none 0 0] 26))
  have hres : ResX (w.alloc (.cells #[.int .i64 0, .int .i64 0, .int .i64 0, .int .i64 0, .string ⟨#[]⟩, .string ⟨#[]⟩, .string ⟨#[]⟩, .int .i64 0, .int .i64 0, .slice none 0 0] 26)) w.heap.size := heap_alloc_new w _
  have hs0 : (w.alloc (.cells #[.int .i64 0, .int .i64 0, .int .i64 0, .int .i64 0, .string ⟨#[]⟩, .string ⟨#[]⟩, .string ⟨#[]⟩, .int .i64 0, .int .i64 0, .slice none 0 0] 26)).heap.size = w.heap.size + 1 := by simp
  obtain ⟨_, _, x2⟩ := hbox _ _ H0
  have HP := hid (hP _ _ H0)
  have HPP := hid hP
  have HBox := hid hbox
  have HRes := hid hres
  have HB0 := hid (albl w (.cells #[.int .i64 0, .int .i64 0, .int .i64 0, .int .i64 0, .string ⟨#[]⟩, .string ⟨#[]⟩, .string ⟨#[]⟩, .int .i64 0, .int .i64 0, .slice none 0 0] 26))
  unfold RdE QX QF at HP
  rw [hs0] at HP
  unfold rowP rP
  clear h hres H0 hP hbox
  cases hp : P l with
  | error x =>
    rw [hp] at HP
    simp only [] at HP ⊢
    clear hp HPP HBox
    go_enter Tryz.func142, Tryz.ntmps142
    go_upto_region 1 with fail
    generalize hWW : w.alloc _ = W at *
    clear hWW
    go_wp2_with (first | (with_reducible refine HP.out.mono ?_; rintro e2 w2 ⟨c2, b2, rfl, f2⟩) | fail)
    exact ⟨rfl, chg_trans (chg_below HB0.out) c2, b2, rfl, f2⟩
  | ok y =>
    obtain ⟨e, l1⟩ := y
    rw [hp] at HP
    simp only [] at HP ⊢
    obtain ⟨R, HR⟩ : ∃ R, Hid (rowL n P l1.length e l1 = R) := ⟨_, rfl⟩
    rw [HR.out]
    have HOp := hid (fun w' (r : RS w' rb p c xs l1 d) => operator_form n r)
    clear hp
    go_enter Tryz.func142, Tryz.ntmps142
    go_upto_region 1 with fail
    generalize hWW : w.alloc _ = W at *
    clear hWW
    go_wp2_with (first
      | (with_reducible refine HP.out.mono ?_; rintro e2 w2 ⟨c2, v2, rfl, ⟨pe, ce, rfl, k, hE, hcp0⟩, r2⟩
         have r3 := r2.below (albl w2 (.cells #[.int .i64 e.k, .int .i64 e.op, .int .i64 e.v.k, .int .i64 e.v.n, .string e.v.s, .string ⟨e.t.toArray⟩, .string ⟨e.n.toArray⟩, .int .i64 0, .int .i64 0, .slice pe e.xs.length ce] 26))
         obtain ⟨x0, x1, _⟩ := HBox.out _ _ r3
         have HRes3 := hid (ResX.chg (F := fun _ => False) (HRes.out.chg c2 (show ¬ (w.heap.size = rb) by omega)) (Chg.of_below (albl w2 (.cells #[.int .i64 e.k, .int .i64 e.op, .int .i64 e.v.k, .int .i64 e.v.n, .string e.v.s, .string ⟨e.t.toArray⟩, .string ⟨e.n.toArray⟩, .int .i64 0, .int .i64 0, .slice pe e.xs.length ce] 26))) id)
         have HE3 := hid (EAt.newer hE (albl w2 (.cells #[.int .i64 e.k, .int .i64 e.op, .int .i64 e.v.k, .int .i64 e.v.n, .string e.v.s, .string ⟨e.t.toArray⟩, .string ⟨e.n.toArray⟩, .int .i64 0, .int .i64 0, .slice pe e.xs.length ce] 26)) (F' := fun j => w.heap.size + 1 ≤ j) (fun j q => q))
         have HE2 := hid hE
         have HBX3 := hid (show BX (w2.alloc (.cells #[.int .i64 e.k, .int .i64 e.op, .int .i64 e.v.k, .int .i64 e.v.n, .string e.v.s, .string ⟨e.t.toArray⟩, .string ⟨e.n.toArray⟩, .int .i64 0, .int .i64 0, .slice pe e.xs.length ce] 26)) w2.heap.size e pe ce from heap_alloc_new w2 _)
         have C3 := hid (Chg.alloc (chg_trans (chg_below HB0.out) c2) (.cells #[.int .i64 e.k, .int .i64 e.op, .int .i64 e.v.k, .int .i64 e.v.n, .string e.v.s, .string ⟨e.t.toArray⟩, .string ⟨e.n.toArray⟩, .int .i64 0, .int .i64 0, .slice pe e.xs.length ce] 26))
         have hs2 := c2.size
         have HR3 := hid r3
         obtain ⟨ok, oo, ot, os, on, hoy, co⟩ := HOp.out _ r3
         have HOY := hid hoy
         have CO := hid co
         clear c2 hE r2 r3 hoy co)
      | (go_at_call 132; with_reducible refine CO.out.mono ?_; rintro e2 w3 ⟨rfl, b3⟩; have B3 := hid b3; clear b3)
      | fail)
    have hres4 := hid (HRes3.out.chg (chg_below (rb := rb) B3.out) (show ¬ (w.heap.size = rb) by omega))
    have hs3 := B3.out.size
    simp only [World.size_alloc] at hs3
    go_loopw [5, 6] (fun s5 s6 wr => ∃ b5 e pe ce k f l ok oo ot os on, s5 = .pointer (some ⟨b5, 0, none⟩) ∧ s6 = .bool (opAt n l).isSome ∧ Hid (RowAt w wr rb p c xs d n P R w2.heap.size b5 e pe ce k f l ok oo ot os on)) (fun _ _ wr => meas xs wr rb)
    case atStart =>
      refine ⟨w3.heap.size, e, pe, ce, k, l1.length, l1, ok, oo, ot, os, on, rfl, rfl, ?_⟩
      have A := albl w3 (.cells #[.int .i64 ok, .int .i64 oo, .int .i64 ot, .string os, .int .i64 on] 132)
      have CA : Chg (· = rb) (w2.alloc (.cells #[.int .i64 e.k, .int .i64 e.op, .int .i64 e.v.k, .int .i64 e.v.n, .string e.v.s, .string ⟨e.t.toArray⟩, .string ⟨e.n.toArray⟩, .int .i64 0, .int .i64 0, .slice pe e.xs.length ce] 26)) (w3.alloc (.cells #[.int .i64 ok, .int .i64 oo, .int .i64 ot, .string os, .int .i64 on] 132)) := chg_trans (chg_below B3.out) (chg_below A)
      refine ⟨(HR3.out.below B3.out).below A, HBX3.out.chg CA (show ¬ (w2.heap.size = rb) by omega), ?_, hres4.out.chg (chg_below (rb := rb) A) (show ¬ (w.heap.size = rb) by omega), chg_trans C3.out CA, HR.out, Nat.le_refl _, ⟨by omega, by omega⟩, OX.new _ _ _ _ _ _, HOY.out, hcp0⟩
      exact HE2.out.keep (F := fun j => w.heap.size + 1 ≤ j) (chg_trans (chg_below (albl w2 (.cells #[.int .i64 e.k, .int .i64 e.op, .int .i64 e.v.k, .int .i64 e.v.n, .string e.v.s, .string ⟨e.t.toArray⟩, .string ⟨e.n.toArray⟩, .int .i64 0, .int .i64 0, .slice pe e.xs.length ce] 26))) CA) (fun j q r => by omega) (fun j q r => ⟨q, by omega⟩)
    case round =>
      clear HR HE2 HE3 HR3 HRes3 HBX3 C3 HOY CO HOp hres4 B3 HP HRes HB0
      obtain ⟨b5, e, pe, ce, k, f, l, ok, oo, ot, os, on, rfl, rfl, hA⟩ := hrel
      have h45 := hA.out.b45
      have hrs := hA.out.rs
      have hltr := hrs.lt
      obtain ⟨⟨o0, o1, o2, o3, o4⟩, of⟩ := hA.out.ox
      obtain ⟨y0, y1, y2, y3, y4, y5, y6, y7, y8, y9⟩ := hA.out.bx.xc
      have yf := hA.out.bx.frozen
      obtain ⟨z0, z1, z2, z3, z4, z5, z6, z7, z8, z9⟩ := hA.out.res.cells
      have zf := hA.out.res.frozen
      simp only [Nat.zero_add] at y0 y1 y2 y3 y4 y5 y6 y7 y8 y9
      obtain ⟨xr0, xr1, xr2⟩ := HBox.out _ _ hrs
      have HOYr := hid hA.out.oy
      have HMs := hid (meas_eq hrs)
      cases hop : opAt n l with
      | none =>
        have hR : R = .ok (e, l) := by
          have := hA.out.rest
          rw [← this]
          cases f with
          | zero => rfl
          | succ f => simp [rowL, hop]
        have HRR := hid hR
        clear hrs hR
        go_wp2_with fail
        refine bodyPost_ret (by simp [results, Tryz.results142, go_sem, z0, z1, z2, z3, z4, z5, z6, z7, z8, z9]; try rfl) rfl ?_
        rw [HRR.out]
        exact finX HH.out hA.out.chg (Nat.le_refl _) hA.out.rs (hA.out.ea.mono (fun j _ q => ⟨by omega, by omega⟩)) hA.out.cp
      | some o =>
        obtain ⟨rfl, rfl, rfl, rfl, rfl⟩ := HOYr.out o hop
        have hlne : l ≠ [] := by
          obtain ⟨x, r, e, _⟩ := stn_pos (opAt_some hop).2.2
          rw [e]; exact List.cons_ne_nil _ _
        have hll : l.tail.length + 1 = l.length := stn_tail (opAt_some hop).2.2
        obtain ⟨f', hf'⟩ : ∃ f', f = f' + 1 := ⟨f - 1, by have := hA.out.fl; omega⟩
        subst hf'
        have HRT : Hid (R = match P l.tail with | .error x => .error x | .ok y => rowL n P f' (mkE o.kind o.op [e, y.1]) y.2) := by
          show R = _
          rw [← hA.out.rest]
          simp only [rowL, hop]
          cases P l.tail <;> rfl
        have HW := hid (with_any (F := fun j => w.heap.size + 1 ≤ j ∧ j ≠ w2.heap.size) o e pe ce k hrs hlne hen HPP.out (fun j q r => by omega) hA.out.ea hA.out.cp)
        unfold RdE QF at HW
        clear hrs
        cases hpt : P l.tail with
        | error x =>
          rw [hpt] at HRT HW
          simp only [] at HRT HW
          go_wp2_with (first
            | (go_at_call 143; with_reducible refine HW.out.mono ?_; rintro e2 w4 ⟨c4, b4, rfl, f4⟩)
            | fail)
          rw [HRT.out]
          exact ⟨rfl, chg_trans hA.out.chg c4, b4, rfl, f4⟩
        | ok y =>
          obtain ⟨y, l2⟩ := y
          have hsf := hSf _ _ hpt
          have hl2 := hsf.length_le
          rw [hpt] at HRT HW
          simp only [] at HRT HW hsf hl2
          have HOp := hid (fun w' (r : RS w' rb p c xs l2 d) => operator_form n r)
          have hwb : w2.heap.size < wr.heap.size := by
            have := cell_lt y0
            exact this
          have hb5 : b5 < wr.heap.size := by
            have := cell_lt o0
            exact this
          have HLL := hid (show l2.length < l.length by omega)
          clear hll hl2 hsf hlne hop
          go_upto_region 6 with (first
            | (go_at_call 143; with_reducible refine HW.out.mono ?_; rintro e2 w4 ⟨c4, v4, rfl, ⟨p4, q4, rfl, k4, E4, hcp4⟩, r4⟩
               have C4 := hid c4
               have HE4 := hid E4
               have HR4 := hid r4
               have bx4 := hA.out.bx.chg c4 (show ¬ (w2.heap.size = rb) by omega)
               have HBX4 := hid bx4
               obtain ⟨yy0, yy1, yy2, yy3, yy4, yy5, yy6, yy7, yy8, yy9⟩ := bx4.xc
               simp only [Nat.zero_add] at yy0 yy1 yy2 yy3 yy4 yy5 yy6 yy7 yy8 yy9
               have yyf := bx4.frozen
               have hs4 := c4.size
               clear c4 E4 r4 bx4 y0 y1 y2 y3 y4 y5 y6 y7 y8 y9 yf z0 z1 z2 z3 z4 z5 z6 z7 z8 z9 zf xr0 xr1 xr2)
            | fail)
          generalize hW4 : World.setCell _ ⟨w2.heap.size, 9, none⟩ _ = W4
          have K4 : Chg (· = w2.heap.size) w4 W4 := by rw [← hW4]; exact put10_chg _ _ _ _ _ _ _ _ _ _ _ _
          have BX5 := hid (show BX W4 w2.heap.size (mkE o.kind o.op [e, y]) p4 q4 by rw [← hW4]; exact HBX4.out.put)
          clear hW4 yy0 yy1 yy2 yy3 yy4 yy5 yy6 yy7 yy8 yy9 yyf
          have hw2 : w.heap.size < w2.heap.size := h45.1
          have R5 := hid (HH.out.fresh HR4.out (Nat.le_of_lt hw2) K4)
          have OX5 := hid ((hA.out.ox.chg C4.out (show ¬ (b5 = rb) by omega)).chg K4 (show ¬ (b5 = w2.heap.size) by omega))
          have RE5 := hid ((hA.out.res.chg C4.out (show ¬ (w.heap.size = rb) by omega)).chg K4 (show ¬ (w.heap.size = w2.heap.size) by omega))
          have CH5 := hid (chg_new (chg_trans hA.out.chg C4.out) (Nat.le_of_lt hw2) K4)
          have EA5 := hid ((HE4.out.mono (G := fun j => w.heap.size + 1 ≤ j ∧ j ≠ w2.heap.size) (fun j _ q => by omega)).chg K4 (fun j q r => q.2 r))
          have hs5 := K4.size
          obtain ⟨⟨o0, o1, o2, o3, o4⟩, of⟩ := OX5.out
          have HK45 := h45
          clear K4 HR4 HE4 HBX4
          go_upto_region 4 with fail
          have A6 := albl W4 (.cells #[.int .i64 o.kind, .int .i64 o.op, .int .i64 o.tok, .string ⟨o.txt.toArray⟩, .int .i64 o.line] 132)
          have R6 := R5.out.below A6
          have X6 := hid (OX.new W4 o.kind o.op o.tok ⟨o.txt.toArray⟩ o.line)
          obtain ⟨x0, x1, _⟩ := HBox.out _ _ R6
          have HA6 := hid A6
          have HR6 := hid R6
          have hs6 : (W4.alloc (.cells #[.int .i64 o.kind, .int .i64 o.op, .int .i64 o.tok, .string ⟨o.txt.toArray⟩, .int .i64 o.line] 132)).heap.size = W4.heap.size + 1 := by simp
          clear A6 R6 o0 o1 o2 o3 o4 of
          generalize hW6 : World.alloc W4 _ = W6 at *
          clear hW6
          obtain ⟨ok, oo, ot, os, on, hoy, co⟩ := HOp.out _ HR6.out
          have HOY := hid hoy
          have CO := hid co
          clear hoy co
          go_wp2_with (first
            | (go_at_call 132; go_loud (with_reducible refine CO.out.mono ?_); rintro e2 w7 ⟨rfl, b7⟩; have B7 := hid b7; have X7 := hid (X6.out.chg (chg_below (rb := rb) b7) (show ¬ (W4.heap.size = rb) by omega)); obtain ⟨⟨o0, o1, o2, o3, o4⟩, of⟩ := X7.out; clear b7)
            | fail)
          have K7 := put5_chg w7 W4.heap.size (.int .i64 ok) (.int .i64 oo) (.int .i64 ot) (.string os) (.int .i64 on)
          have CX : Chg (· = rb) W4 w7 := chg_trans (chg_below HA6.out) (chg_below B7.out)
          have hw7 := CX.size
          go_roundw
          case rel =>
            refine ⟨W4.heap.size, mkE o.kind o.op [e, y], p4, q4, k4, f', l2, ok, oo, ot, os, on, rfl, rfl, ?_⟩
            have CY : ∀ b, b < W4.heap.size → b ≠ rb → ¬ (fun j => j = rb ∨ j = W4.heap.size) b := fun b h1 h2 q => by rcases q with q | q <;> omega
            have C9 : Chg (fun j => j = rb ∨ j = W4.heap.size) W4 (((((w7.setCell ⟨W4.heap.size, 0, none⟩ (.int .i64 ok)).setCell ⟨W4.heap.size, 1, none⟩ (.int .i64 oo)).setCell ⟨W4.heap.size, 2, none⟩ (.int .i64 ot)).setCell ⟨W4.heap.size, 3, none⟩ (.string os)).setCell ⟨W4.heap.size, 4, none⟩ (.int .i64 on)) := (CX.mono (fun j _ q => Or.inl q)).trans K7 (fun j _ q => Or.inr q)
            refine ⟨HH.out.fresh (HR6.out.below B7.out) (by omega) K7, BX5.out.chg C9 (CY _ (by omega) (by omega)), (EA5.out.mono (G := fun j => (w.heap.size + 1 ≤ j ∧ j ≠ w2.heap.size) ∧ j < W4.heap.size) (fun j hj q => ⟨q, hj⟩)).chg C9 (fun j q => CY j q.2 (by omega)) |>.mono (fun j _ q => q.1), RE5.out.chg C9 (CY _ (by omega) (by omega)), chg_new (chg_trans CH5.out CX) (by omega) K7, HRT.out.symm, by have := hA.out.fl; have := HLL.out; omega, ⟨hw2, by omega⟩, X7.out.put _ _ _ _ _, HOY.out, hcp4⟩
          case measure =>
            rw [meas_eq (HH.out.fresh (HR6.out.below B7.out) (by omega) K7), HMs.out]
            exact HLL.out
end Go.Proofs.YtblkhlhhlalbkaaGreatDoor
namespace Go.Proofs.YtblkhlhhlalbkaaGreatDoor
open Go.RowKit Go.Lib Go.Sort
set_option linter.unusedVariables false
set_option maxRecDepth 20000

theorem text_eq {s t : ByteArray} (h : s.data.toList = t.data.toList) : s = t := by
  obtain ⟨⟨a⟩⟩ := s
  obtain ⟨⟨b⟩⟩ := t
  simpa using h
/-- No expression within has more than three operands. -/
def A3 : Nat → Ex → Prop
  | 0, _ => True
  | n + 1, e => e.xs.length ≤ 3 ∧ ∀ z ∈ e.xs, A3 n z
def SameOk (m : Nat) : Prop := ∀ (w : World) (x y : Ex) (px py : Option Addr) (cx cy : Nat), A3 m x → EAt w (fun _ => True) m x px → EAt w (fun _ => True) m y py →
  Calls Tryz.prog 40 #[.agg #[.int .i64 x.k, .int .i64 x.op, .int .i64 x.v.k, .int .i64 x.v.n, .string x.v.s, .string ⟨x.t.toArray⟩, .string ⟨x.n.toArray⟩, .int .i64 0, .int .i64 0, .slice px x.xs.length cx], .agg #[.int .i64 y.k, .int .i64 y.op, .int .i64 y.v.k, .int .i64 y.v.n, .string y.v.s, .string ⟨y.t.toArray⟩, .string ⟨y.n.toArray⟩, .int .i64 0, .int .i64 0, .slice py y.xs.length cy]] w fun e w' => Below w.heap.size w w' ∧ ∃ r, e = .returned (.bool r) ∧ Hid (r = true ↔ x = y)
/-- A row of expressions. -/
def RowE (w : World) (m : Nat) (p : Option Addr) (xs : List Ex) : Prop := xs = [] ∨ ∃ b off, p = some ⟨b, off, none⟩ ∧ ∀ i (h : i < xs.length), ∃ q c, XC w b (off + i * 10) xs[i] q c ∧ EAt w (fun _ => True) m xs[i] q ∧ EC w b (off + i * 10) xs[i] c
theorem RowE.below {w w' : World} {m : Nat} {p : Option Addr} {xs : List Ex} (h : RowE w m p xs) (B : Below w.heap.size w w') : RowE w' m p xs := by
  rcases h with h | ⟨b, off, hp, hc⟩
  · exact Or.inl h
  · refine Or.inr ⟨b, off, hp, fun i hi => ?_⟩
    obtain ⟨q, c, h1, h2, h3⟩ := hc i hi
    exact ⟨q, c, h1.chg (F := fun _ => False) (Chg.of_below B) id, h2.chg (G := fun _ => False) (Chg.of_below B) (fun _ _ q => q), h3.chg (F := fun _ => False) (Chg.of_below B) (cell_lt h1.1) id⟩
theorem RowE.at {w : World} {m : Nat} {p : Option Addr} {xs : List Ex} (h : RowE w m p xs) {i : Nat} (hi : i < xs.length) : ∃ b off q c, p = some ⟨b, off, none⟩ ∧ XC w b (off + i * 10) xs[i] q c ∧ EAt w (fun _ => True) m xs[i] q := by
  rcases h with h | ⟨b, off, hp, hc⟩
  · subst h; simp at hi
  · obtain ⟨q, c, h1, h2, _⟩ := hc i hi
    exact ⟨b, off, q, c, hp, h1, h2⟩
set_option maxHeartbeats 8000000 in
theorem equal_any (m : Nat) (w : World) (xs ys : List Ex) (px py : Option Addr) (cx cy : Nat) (hx : RowE w m px xs) (hy : RowE w m py ys) (hlen : xs.length ≤ 140737488351232) (hA : ∀ z ∈ xs, A3 m z) (hS : xs ≠ [] → SameOk m) :
    Calls Tryz.prog 61 #[.slice px xs.length cx, .slice py ys.length cy, .func (.func 40) #[] #[]] w fun e w' => Below w.heap.size w w' ∧ ∃ r, e = .returned (.bool r) ∧ Hid (r = true ↔ xs = ys) := by
  by_cases hl : xs.length = ys.length
  · have HX := hid hx
    have HY := hid hy
    have HS := hid hS
    have HL := hid hl
    have HAA := hid hA
    have hli : ((ys.length : Int) = (xs.length : Int)) := by omega
    rw [← hl]
    clear hx hy hS hl hli hA
    go_enter Tryz.func61, Tryz.ntmps61
    go_wp2_with fail
    go_loopw [17] (fun i wr => ∃ k : Nat, k ≤ xs.length ∧ i = .int .i64 (k : Int) ∧ Below w.heap.size w wr ∧ ∀ j, j < k → xs[j]? = ys[j]?) (fun i _ => xs.length - (RowKit.intOf i).toNat)
    case atStart => exact ⟨0, Nat.zero_le _, rfl, Below.refl _ _, fun j h => absurd h (Nat.not_lt_zero _)⟩
    case round =>
      obtain ⟨k, hk, rfl, hbw, hno⟩ := hrel
      have HB := hid hbw
      have HN := hid hno
      have hsz := hbw.size
      clear hbw hno
      by_cases hkx : k < xs.length
      · have hky : k < ys.length := by have := HL.out; omega
        obtain ⟨bx, ox, qx, ccx, rfl, X, EX⟩ := (HX.out.below HB.out).at hkx
        obtain ⟨by', oy, qy, ccy, rfl, Y, EY⟩ := (HY.out.below HB.out).at hky
        have hbx : bx < wr.heap.size := cell_lt X.1
        have hby : by' < wr.heap.size := cell_lt Y.1
        have hbx1 : bx < wr.heap.size + 1 := by omega
        have hby1 : by' < wr.heap.size + 1 := by omega
        have HEX := hid EX
        have HEY := hid EY
        have hkI : (k : Int) < (xs.length : Int) := by omega
        have hk0 : (0 : Int) ≤ (k : Int) := by omega
        obtain ⟨x0, x1, x2, x3, x4, x5, x6, x7, x8, x9⟩ := X
        obtain ⟨y0, y1, y2, y3, y4, y5, y6, y7, y8, y9⟩ := Y
        have HXK : Hid (xs[k]? = some xs[k]) := List.getElem?_eq_getElem hkx
        have HA3 := hid (HAA.out xs[k] (List.getElem_mem _))
        have HSX := hid (HS.out (fun h => by rw [h] at hkx; simp at hkx))
        have HYK : Hid (ys[k]? = some ys[k]) := List.getElem?_eq_getElem hky
        generalize xs[k] = x at *
        generalize ys[k] = y at *
        clear EX EY
        have HCS := hid (fun w' (B : Below wr.heap.size wr w') => HSX.out w' x y qx qy ccx ccy HA3.out (HEX.out.chg (G := fun _ => False) (Chg.of_below B) (fun _ _ q => q)) (HEY.out.chg (G := fun _ => False) (Chg.of_below B) (fun _ _ q => q)))
        have HAL := hid (fun (o1 o2 : Obj) => ((Below.refl wr.heap.size wr).alloc (Nat.le_refl _) o1).alloc (by simp) o2)
        go_wp2_with (first
          | (go_at_call 40; go_loud (with_reducible refine (HCS.out _ (HAL.out _ _)).mono ?_); rintro e2 w2 ⟨b2, r, rfl, HR⟩; have B2 := hid (HB.out.trans (((HAL.out _ _).trans (b2.mono (by simp; omega))).mono hsz)); clear b2; cases r)
          | fail)
        · go_ret
          refine ⟨B2.out, false, rfl, ?_⟩
          show false = true ↔ xs = ys
          refine ⟨fun h => (by cases h), fun h => ?_⟩
          have e : x = y := by
            have := HXK.out
            rw [h, HYK.out] at this
            exact (Option.some.inj this).symm
          exact HR.out.2 e
        · have hxy : x = y := HR.out.1 trivial
          go_roundw
          case rel => exact ⟨k + 1, by omega, by go_num, B2.out, fun j hj => by
            by_cases e : j = k
            · subst e; rw [HXK.out, HYK.out, hxy]
            · exact HN.out j (by omega)⟩
          case measure => simp [RowKit.intOf]; omega
      · have hkI : ¬ (k : Int) < (xs.length : Int) := by omega
        go_wp2_with fail
        go_ret
        refine ⟨HB.out, Or.inr ⟨rfl, ?_⟩⟩
        show xs = ys
        refine List.ext_getElem? (fun j => ?_)
        by_cases hj : j < k
        · exact HN.out j hj
        · rw [List.getElem?_eq_none (by omega), List.getElem?_eq_none (by have := HL.out; omega)]
  · have hne : ¬ (xs.length : Int) = (ys.length : Int) := by omega
    have HL := hid hl
    clear hx hy
    go_enter Tryz.func61, Tryz.ntmps61
    go_wp2_with fail
    all_goals go_ret
    all_goals refine ⟨Below.refl _ _, false, rfl, ?_⟩
    all_goals show false = true ↔ xs = ys
    all_goals exact ⟨fun h => (by cases h), fun h => absurd (congrArg List.length h) HL.out⟩
theorem eat_row {w : World} {m : Nat} {e : Ex} {p : Option Addr} (h : EAt w (fun _ => True) (m + 1) e p) : RowE w m p e.xs := by
  rcases h with h | ⟨b, off, hp, _, hc⟩
  · exact Or.inl h
  · exact Or.inr ⟨b, off, hp, hc⟩
set_option maxHeartbeats 16000000 in
theorem same_core (m : Nat) (w : World) (x y : Ex) (px py : Option Addr) (cx cy : Nat) (RX : RowE w m px x.xs) (RY : RowE w m py y.xs) (hlen : x.xs.length ≤ 140737488351232) (hA : ∀ z ∈ x.xs, A3 m z) (hS : x.xs ≠ [] → SameOk m) :
    Calls Tryz.prog 40 #[.agg #[.int .i64 x.k, .int .i64 x.op, .int .i64 x.v.k, .int .i64 x.v.n, .string x.v.s, .string ⟨x.t.toArray⟩, .string ⟨x.n.toArray⟩, .int .i64 0, .int .i64 0, .slice px x.xs.length cx], .agg #[.int .i64 y.k, .int .i64 y.op, .int .i64 y.v.k, .int .i64 y.v.n, .string y.v.s, .string ⟨y.t.toArray⟩, .string ⟨y.n.toArray⟩, .int .i64 0, .int .i64 0, .slice py y.xs.length cy]] w fun e w' => Below w.heap.size w w' ∧ ∃ r, e = .returned (.bool r) ∧ Hid (r = true ↔ x = y) := by
  have HE := hid (fun w' (B : Below w.heap.size w w') => equal_any m w' x.xs y.xs px py cx cy (RX.below B) (RY.below B) hlen hA hS)
  clear RX RY hS hA
  go_enter Tryz.func40, Tryz.ntmps40
  go_wp2_with (first
    | (go_at_call 61; go_loud (with_reducible refine (HE.out _ (((Below.refl w.heap.size w).alloc (Nat.le_refl _) _).alloc (by simp) _)).mono ?_); rintro e2 w2 ⟨b2, r, rfl, HR⟩; have HB2 := hid b2; clear b2)
    | fail)
  all_goals go_ret
  · refine ⟨((Below.refl w.heap.size w).alloc (Nat.le_refl _) _).alloc (by simp) _ |>.trans (HB2.out.mono (by simp; omega)), r, rfl, ?_⟩
    show r = true ↔ x = y
    rw [show (r = true) = (x.xs = y.xs) from propext HR.out]
    rename_i h6 h5 h4 h3 h2 h1 h0
    constructor
    · intro h
      obtain ⟨xk, xo, ⟨a1, a2, a3⟩, xt, xn, xx⟩ := x
      obtain ⟨yk, yo, ⟨b1, b2, b3⟩, yt, yn, yy⟩ := y
      simp only at *
      have : a3 = b3 := by
        refine text_eq ?_
        rw [← ByteArray.toList_eq, ← ByteArray.toList_eq]
        exact h2
      simp_all
    · rintro rfl; rfl
  all_goals
    refine ⟨((Below.refl w.heap.size w).alloc (Nat.le_refl _) _).alloc (by simp) _, false, rfl, ?_⟩
    show false = true ↔ x = y
    refine ⟨fun h => (by cases h), fun h => ?_⟩
    subst h
    simp_all
theorem same_all : ∀ m, SameOk m
  | 0 => fun w x y px py cx cy hA hx hy => same_core 0 w x y px py cx cy (Or.inl hx) (Or.inl hy) (by rw [show x.xs = [] from hx]; simp) (fun z hz => trivial) (fun h => absurd hx h)
  | m + 1 => fun w x y px py cx cy hA hx hy => same_core m w x y px py cx cy (eat_row hx) (eat_row hy) (by have := hA.1; omega) hA.2 (fun _ => same_all m)
end Go.Proofs.YtblkhlhhlalbkaaGreatDoor
