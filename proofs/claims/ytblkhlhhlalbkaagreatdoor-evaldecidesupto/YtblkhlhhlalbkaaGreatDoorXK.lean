/- What column and call of the reader of package expr do. Conditions: none. What stands within brackets: what the functions do that brackets is handed. Conditions: none. What called of the reader of package expr does. Conditions: none. -/
import Derived.Test.YtblkhlhhlalbkaaGreatDoorXI
import Derived.Deep.CutRange
import Derived.Deep.RegionHeld3
import Derived.Test.YtblkhlhhlalbkaaGreatDoorXJ
namespace Go.Proofs.YtblkhlhhlalbkaaGreatDoor
open Go.RowKit Go.Lib Go.Sort
set_option linter.unusedVariables false
set_option maxRecDepth 20000
set_option linter.unusedSimpArgs false

set_option maxHeartbeats 8000000 in
theorem column_any {w : World} {rb : Nat} {p : Option Addr} {c : Nat} {xs l : Ts} {d : Nat} (h : RS w rb p c xs l d) :
    Calls Tryz.prog 141 #[.pointer (some ⟨rb, 0, none⟩)] w (RdE (QX w.heap.size) rb p c xs d (colP l) w) := by
  have HH := hid h
  have hlt := h.lt
  have HB0 := hid (albl w (.cells #[.int .i64 0, .int .i64 0, .int .i64 0, .int .i64 0, .string ⟨#[]⟩, .string ⟨#[]⟩, .string ⟨#[]⟩, .int .i64 0, .int .i64 0, .slice none 0 0] 26))
  have H0 := hid (h.below HB0.out)
  have HRes := hid (show ResX (w.alloc (.cells #[.int .i64 0, .int .i64 0, .int .i64 0, .int .i64 0, .string ⟨#[]⟩, .string ⟨#[]⟩, .string ⟨#[]⟩, .int .i64 0, .int .i64 0, .slice none 0 0] 26)) w.heap.size from heap_alloc_new w _)
  have N1 := hid (rname_any H0.out)
  have HNN := hid (fun w' l' (r : RS w' rb p c xs l' d) => rname_any r)
  unfold RdE at N1 HNN
  unfold colP
  clear h
  cases hn : nameP l with
  | error x =>
    rw [hn] at N1
    simp only [] at N1 ⊢
    go_enter Tryz.func141, Tryz.ntmps141
    go_upto_region 1 with fail
    generalize hWW : w.alloc _ = W at *
    clear hWW
    go_wp2_with (first
      | (go_at_call 179; go_loud (with_reducible refine N1.out.mono ?_); rintro e2 w2 ⟨c2, b2, rfl, f2⟩)
      | fail)
    exact ⟨rfl, chg_trans (chg_below HB0.out) c2, b2, rfl, f2⟩
  | ok y =>
    obtain ⟨a, l1⟩ := y
    rw [hn] at N1
    simp only [] at N1 ⊢
    have T := hid (fun w' (r : RS w' rb p c xs l1 d) => take_any 5 [46] r (by decide))
    cases hs : stn 5 [46] l1 with
    | false =>
      rw [hs] at T
      simp only [Bool.false_eq_true, if_false] at T ⊢
      go_enter Tryz.func141, Tryz.ntmps141
      go_upto_region 1 with fail
      generalize hWW : w.alloc _ = W at *
      clear hWW
      go_wp2_with (first
        | (go_at_call 179; go_loud (with_reducible refine N1.out.mono ?_); rintro e2 w2 ⟨c2, v2, rfl, rfl, r2⟩; have C2 := hid c2; have TT := hid (T.out _ r2); clear c2 r2)
        | (go_at_call 145; go_loud (with_reducible refine TT.out.mono ?_); rintro e3 w3 ⟨rfl, c3, r3⟩; have C3 := hid (chg_trans C2.out c3); have R3 := hid r3; have res3 := HRes.out.chg (chg_trans C2.out c3) (show ¬ (w.heap.size = rb) by omega); obtain ⟨z0, z1, z2, z3, z4, z5, z6, z7, z8, z9⟩ := res3.cells; have zf := res3.frozen; clear c3 r3 res3)
        | fail)
      refine bodyPost_ret (by simp [results, Tryz.results141, go_sem, z0, z1, z2, z3, z4, z5, z6, z7, z8, z9]; try rfl) rfl ?_
      exact finX (e := colE [] a) (k := 0) HH.out (chg_trans (chg_below HB0.out) C3.out) (Nat.le_refl _) R3.out rfl (Nat.zero_le _)
    | true =>
      rw [hs] at T
      simp only [if_true] at T ⊢
      have N2 := hid (fun w' (r : RS w' rb p c xs l1.tail d) => HNN.out w' _ r)
      cases hn2 : nameP l1.tail with
      | error x =>
        rw [hn2] at N2
        simp only [] at N2 ⊢
        go_enter Tryz.func141, Tryz.ntmps141
        go_upto_region 1 with fail
        generalize hWW : w.alloc _ = W at *
        clear hWW
        go_upto_region 4 with (first
          | (go_at_call 179; go_loud (with_reducible refine N1.out.mono ?_); rintro e2 w2 ⟨c2, v2, rfl, rfl, r2⟩; have C2 := hid c2; have TT := hid (T.out _ r2); clear c2 r2)
          | (go_at_call 145; go_loud (with_reducible refine TT.out.mono ?_); rintro e3 w3 ⟨rfl, c3, r3⟩; have C3 := hid (chg_trans C2.out c3); have N3 := hid (N2.out _ r3); clear c3 r3)
          | fail)
        go_wp2_with (first
          | (go_at_call 179; go_loud (with_reducible refine N3.out.mono ?_); rintro e4 w4 ⟨c4, b4, rfl, f4⟩)
          | fail)
        exact ⟨rfl, chg_trans (chg_below HB0.out) (chg_trans C3.out c4), b4, rfl, f4⟩
      | ok z =>
        obtain ⟨b, l2⟩ := z
        rw [hn2] at N2
        simp only [] at N2 ⊢
        go_enter Tryz.func141, Tryz.ntmps141
        go_upto_region 1 with fail
        generalize hWW : w.alloc _ = W at *
        clear hWW
        go_upto_region 4 with (first
          | (go_at_call 179; go_loud (with_reducible refine N1.out.mono ?_); rintro e2 w2 ⟨c2, v2, rfl, rfl, r2⟩; have C2 := hid c2; have TT := hid (T.out _ r2); clear c2 r2)
          | (go_at_call 145; go_loud (with_reducible refine TT.out.mono ?_); rintro e3 w3 ⟨rfl, c3, r3⟩; have C3 := hid (chg_trans C2.out c3); have N3 := hid (N2.out _ r3); clear c3 r3)
          | fail)
        go_wp2_with (first
          | (go_at_call 179; go_loud (with_reducible refine N3.out.mono ?_); rintro e4 w4 ⟨c4, v4, rfl, rfl, r4⟩; have C4 := hid (chg_trans C3.out c4); have R4 := hid r4; have res4 := HRes.out.chg (chg_trans C3.out c4) (show ¬ (w.heap.size = rb) by omega); obtain ⟨z0, z1, z2, z3, z4, z5, z6, z7, z8, z9⟩ := res4.cells; have zf := res4.frozen; clear c4 r4 res4)
          | fail)
        refine bodyPost_ret (by simp [results, Tryz.results141, go_sem, z0, z1, z2, z3, z4, z5, z6, z7, z8, z9]; try rfl) rfl ?_
        exact finX (e := colE a b) (k := 0) HH.out (chg_trans (chg_below HB0.out) C4.out) (Nat.le_refl _) R4.out rfl (Nat.zero_le _)
theorem tokV_form (l : Ts) (k : Nat) : ∃ a s i n, tokV l k = .agg #[.int .i64 a, .string ⟨List.toArray s⟩, .int .i64 i, .int .i64 n] ∧ ∀ x, l[k]? = some x → a = x.1.k ∧ s = x.1.s := by
  unfold tokV
  cases h : l[k]? with
  | none => exact ⟨0, [], 0, 0, rfl, fun x q => by cases q⟩
  | some x => exact ⟨x.1.k, x.1.s, x.2, x.1.n, rfl, fun y q => by cases q; exact ⟨rfl, rfl⟩⟩
theorem calT_eq (l : Ts) (a b : Int) (s t : List UInt8) (i j n m : Int) (h0 : tokV l 0 = .agg #[.int .i64 a, .string ⟨s.toArray⟩, .int .i64 i, .int .i64 n]) (h1 : tokV l 1 = .agg #[.int .i64 b, .string ⟨t.toArray⟩, .int .i64 j, .int .i64 m]) : calT l = if a = 1 ∧ b = 5 ∧ t = [40] then calN s else none := by
  match l, h0, h1 with
  | [], h0, h1 =>
    have : a = 0 := by have := h0; simp [tokV] at this; exact this.1.symm
    subst this
    rfl
  | [x], h0, h1 =>
    have : b = 0 := by have := h1; simp [tokV] at this; exact this.1.symm
    subst this
    simp [calT]
  | x :: y :: r, h0, h1 =>
    have e0 : x.1.k = a ∧ x.1.s = s := by
      have := h0; simp [tokV] at this; exact ⟨this.1, this.2.1⟩
    have e1 : y.1.k = b ∧ y.1.s = t := by
      have := h1; simp [tokV] at this; exact ⟨this.1, this.2.1⟩
    obtain ⟨rfl, rfl⟩ := e0
    obtain ⟨rfl, rfl⟩ := e1
    rfl
/-- A variable that holds a token. -/
def TkB (w : World) (b0 : Nat) (a : Int) (s : List UInt8) (i n : Int) : Prop := w.cell? ⟨b0, 0, none⟩ = some (.int .i64 a) ∧ w.cell? ⟨b0, 1, none⟩ = some (.string ⟨s.toArray⟩) ∧ w.cell? ⟨b0, 2, none⟩ = some (.int .i64 i) ∧ w.cell? ⟨b0, 3, none⟩ = some (.int .i64 n)
theorem blTr {W Y Z : World} (b : Below Y.heap.size Y Z) (h : Below W.heap.size W Y) : Below W.heap.size W Z := h.trans (b.mono h.size)
theorem blAl {W Y : World} (h : Below W.heap.size W Y) (o : Obj) : Below W.heap.size W (Y.alloc o) := h.alloc h.size o
theorem blDr {W Y : World} (h : Below W.heap.size W Y) : Below W.heap.size W Y.drew := h.drew
theorem blRf (W : World) : Below W.heap.size W W := Below.refl _ _
theorem tk_lt {w : World} {b : Nat} {o : Obj} (h : w.heap[b]? = some o) : b < w.heap.size := (Array.getElem?_eq_some_iff.1 h).1
theorem tk_fr {w : World} {b : Nat} {cs : Array Value} {t : TypeId} (h : w.heap[b]? = some (.cells cs t (0, 0))) : w.frozen? ⟨b, 0, none⟩ = false ∧ w.frozen? ⟨b, 1, none⟩ = false ∧ w.frozen? ⟨b, 2, none⟩ = false ∧ w.frozen? ⟨b, 3, none⟩ = false :=
  ⟨Lib.frozen_of_heap h 0, Lib.frozen_of_heap h 1, Lib.frozen_of_heap h 2, Lib.frozen_of_heap h 3⟩
theorem tk_cells {w : World} {b : Nat} (h : w.heap[b]? = some (.cells #[.int .i64 0, .string ⟨#[]⟩, .int .i64 0, .int .i64 0] 106 (0, 0))) : w.cell? ⟨b, 0, none⟩ = some (.int .i64 0) ∧ w.cell? ⟨b, 1, none⟩ = some (.string ⟨#[]⟩) ∧ w.cell? ⟨b, 2, none⟩ = some (.int .i64 0) ∧ w.cell? ⟨b, 3, none⟩ = some (.int .i64 0) := by
  refine ⟨?_, ?_, ?_, ?_⟩ <;> (rw [Lib.cell_of_heap h]; rfl)
theorem tk_put {W Y : World} {bA bB : Nat} {a i n b j m : Int} {s t : List UInt8} (hA : Y.heap[bA]? = some (.cells #[.int .i64 0, .string ⟨#[]⟩, .int .i64 0, .int .i64 0] 106 (0, 0))) (hB : Y.heap[bB]? = some (.cells #[.int .i64 0, .string ⟨#[]⟩, .int .i64 0, .int .i64 0] 106 (0, 0))) (hne : bA ≠ bB) (lA : W.heap.size ≤ bA) (lB : W.heap.size ≤ bB) (CC : Below W.heap.size W Y) :
    TkB ((((((((Y.setCell ⟨bA, 0, none⟩ (.int .i64 a)).setCell ⟨bA, 1, none⟩ (.string ⟨s.toArray⟩)).setCell ⟨bA, 2, none⟩ (.int .i64 i)).setCell ⟨bA, 3, none⟩ (.int .i64 n)).setCell ⟨bB, 0, none⟩ (.int .i64 b)).setCell ⟨bB, 1, none⟩ (.string ⟨t.toArray⟩)).setCell ⟨bB, 2, none⟩ (.int .i64 j)).setCell ⟨bB, 3, none⟩ (.int .i64 m)) bA a s i n ∧
    TkB ((((((((Y.setCell ⟨bA, 0, none⟩ (.int .i64 a)).setCell ⟨bA, 1, none⟩ (.string ⟨s.toArray⟩)).setCell ⟨bA, 2, none⟩ (.int .i64 i)).setCell ⟨bA, 3, none⟩ (.int .i64 n)).setCell ⟨bB, 0, none⟩ (.int .i64 b)).setCell ⟨bB, 1, none⟩ (.string ⟨t.toArray⟩)).setCell ⟨bB, 2, none⟩ (.int .i64 j)).setCell ⟨bB, 3, none⟩ (.int .i64 m)) bB b t j m ∧
    Below W.heap.size W ((((((((Y.setCell ⟨bA, 0, none⟩ (.int .i64 a)).setCell ⟨bA, 1, none⟩ (.string ⟨s.toArray⟩)).setCell ⟨bA, 2, none⟩ (.int .i64 i)).setCell ⟨bA, 3, none⟩ (.int .i64 n)).setCell ⟨bB, 0, none⟩ (.int .i64 b)).setCell ⟨bB, 1, none⟩ (.string ⟨t.toArray⟩)).setCell ⟨bB, 2, none⟩ (.int .i64 j)).setCell ⟨bB, 3, none⟩ (.int .i64 m)) := by
  obtain ⟨a0, a1, a2, a3⟩ := tk_cells hA
  obtain ⟨b0, b1, b2, b3⟩ := tk_cells hB
  have hne' : bB ≠ bA := Ne.symm hne
  refine ⟨⟨?_, ?_, ?_, ?_⟩, ⟨?_, ?_, ?_, ?_⟩, ?_⟩
  · simp [go_sem, a0, hne, hne']
  · simp [go_sem, a1, hne, hne']
  · simp [go_sem, a2, hne, hne']
  · simp [go_sem, a3, hne, hne']
  · simp [go_sem, b0, hne, hne']
  · simp [go_sem, b1, hne, hne']
  · simp [go_sem, b2, hne, hne']
  · simp [go_sem, b3, hne, hne']
  · exact (((((((CC.setCell (p := ⟨bA, 0, none⟩) lA _).setCell (p := ⟨bA, 1, none⟩) lA _).setCell (p := ⟨bA, 2, none⟩) lA _).setCell (p := ⟨bA, 3, none⟩) lA _).setCell (p := ⟨bB, 0, none⟩) lB _).setCell (p := ⟨bB, 1, none⟩) lB _).setCell (p := ⟨bB, 2, none⟩) lB _).setCell (p := ⟨bB, 3, none⟩) lB _
/-- An operation that yields its value wherever the condition holds is taken first; its slot is named. -/
theorem wpAnyH_takeT {P : Program} {md : Region.Mode} {ops : Array Oper} {Q : Exit → Act → World → Prop} {S : World → Prop} {i t : Nat} {oi : Oper} {v : Value} {fuel : Nat} {listed : Array Bool} {a : Act} {w : World} (hi : ops[i]? = some oi) (hd : oi.dst = some t)
    (hs : Region.noSelect ops = true) (hf : Region.free md ops listed i = true) (hr : (Region.ready md ops listed).contains i = true)
    (hQ : ∀ c a w, Q (.panic c) (a.put (some t) v) w → Q (.panic c) a w) (hy : YieldsIf P ops S oi v a) (hS : S w)
    (h : wpAnyH P md ops Q S fuel (listed.setIfInBounds i true) (a.put (some t) v) w) : wpAnyH P md ops Q S (fuel + 1) listed a w :=
  wpAnyH_take hi hs hf hr (by rw [hd]; exact hQ) hy hS (by rw [hd]; exact h)
set_option maxHeartbeats 8000000 in
theorem call_any {w : World} {rb : Nat} {p : Option Addr} {c : Nat} {xs l : Ts} {d : Nat} (h : RS w rb p c xs l d) :
    Calls Tryz.prog 139 #[.pointer (some ⟨rb, 0, none⟩)] w fun e w' => e = .returned (.tuple #[calO (calT l), .bool (calT l).isSome]) ∧ Below w.heap.size w w' := by
  have HB0 := hid (albl w (.cells #[.int .i64 0, .int .i64 0, .string ⟨#[]⟩, .int .i64 0] 161))
  have H0 := hid (h.below HB0.out)
  have HRes := hid (show ResC (w.alloc (.cells #[.int .i64 0, .int .i64 0, .string ⟨#[]⟩, .int .i64 0] 161)) w.heap.size from heap_alloc_new w _)
  obtain ⟨a, s, i, n, e0, _⟩ := tokV_form l 0
  obtain ⟨b, t, j, m, e1, _⟩ := tokV_form l 1
  have T0 := hid (fun w' (q : Below (w.alloc (.cells #[.int .i64 0, .int .i64 0, .string ⟨#[]⟩, .int .i64 0] 161)).heap.size (w.alloc (.cells #[.int .i64 0, .int .i64 0, .string ⟨#[]⟩, .int .i64 0] 161)) w') => token0 (H0.out.below q))
  have T1 := hid (fun w' (q : Below (w.alloc (.cells #[.int .i64 0, .int .i64 0, .string ⟨#[]⟩, .int .i64 0] 161)).heap.size (w.alloc (.cells #[.int .i64 0, .int .i64 0, .string ⟨#[]⟩, .int .i64 0] 161)) w') => token1 (H0.out.below q))
  rw [e0] at T0
  rw [e1] at T1
  rw [calT_eq l a b s t i j n m e0 e1]
  have HN := hid (fun w' (q : Gl w') => callNamed_any s q)
  have hsz0 : (w.alloc (.cells #[.int .i64 0, .int .i64 0, .string ⟨#[]⟩, .int .i64 0] 161)).heap.size = w.heap.size + 1 := by simp
  clear h e0 e1
  obtain ⟨R, HR⟩ : ∃ R, Hid ((if a = 1 ∧ b = 5 ∧ t = [40] then calN s else none) = R) := ⟨_, rfl⟩
  rw [HR.out]
  obtain ⟨k, o, nm, cn, er⟩ : ∃ k o nm cn, calO R = .agg #[.int .i64 k, .int .i64 o, .string nm, .int .i64 cn] := by
    cases R with
    | none => exact ⟨0, 0, ⟨#[]⟩, 0, rfl⟩
    | some r => exact ⟨_, _, _, _, rfl⟩
  obtain ⟨sm, hsm⟩ : ∃ sm, R.isSome = sm := ⟨_, rfl⟩
  rw [er, hsm]
  have HER := hid er
  have HSM := hid hsm
  clear er hsm
  go_enter Tryz.func139, Tryz.ntmps139
  go_upto_region 1 with fail
  generalize hWW : w.alloc _ = W at *
  clear hWW
  go_cut [4, 5] from 6 to 13 (fun s4 s5 wx => ∃ b4 b5 : Nat, s4 = .pointer (some ⟨b4, 0, none⟩) ∧ s5 = .pointer (some ⟨b5, 0, none⟩) ∧ TkB wx b4 a s i n ∧ TkB wx b5 b t j m ∧ Below W.heap.size W wx)
  case first =>
    refine wp_region_held_drew (S := fun _ => True) (by kernel_rfl) trivial (fun hHeld => ?_)
    have CC : Below W.heap.size W W.drew := blDr (blRf W)
    generalize hV : W.drew = Y at *
    clear hV hHeld
    refine wpAnyH_takeT (i := 0) (t := 6) (v := ?_) rfl rfl (by kernel_rfl) (by kernel_rfl) (by kernel_rfl) (fun _ _ _ h => h) (Or.inl ⟨by rfl, ?_⟩) trivial ?_
    rotate_left
    · intro wq hSw
      go_simp
      try with_reducible rfl
    try go_frame
    refine wpAnyH_takeT (i := 1) (t := 7) (v := ?_) rfl rfl (by kernel_rfl) (by kernel_rfl) (by kernel_rfl) (fun _ _ _ h => h) (Or.inl ⟨by rfl, ?_⟩) trivial ?_
    rotate_left
    · intro wq hSw
      go_simp
      try with_reducible rfl
    try go_frame
    refine wpAnyH_takeT (i := 2) (t := 8) (v := ?_) rfl rfl (by kernel_rfl) (by kernel_rfl) (by kernel_rfl) (fun _ _ _ h => h) (Or.inl ⟨by rfl, ?_⟩) trivial ?_
    rotate_left
    · intro wq hSw
      go_simp
      try with_reducible rfl
    try go_frame
    refine wpAnyH_takeT (i := 4) (t := 10) (v := ?_) rfl rfl (by kernel_rfl) (by kernel_rfl) (by kernel_rfl) (fun _ _ _ h => h) (Or.inl ⟨by rfl, ?_⟩) trivial ?_
    rotate_left
    · intro wq hSw
      go_simp
      try with_reducible rfl
    try go_frame
    refine wpAnyH_takeT (i := 5) (t := 11) (v := ?_) rfl rfl (by kernel_rfl) (by kernel_rfl) (by kernel_rfl) (fun _ _ _ h => h) (Or.inl ⟨by rfl, ?_⟩) trivial ?_
    rotate_left
    · intro wq hSw
      go_simp
      try with_reducible rfl
    try go_frame
    refine wpAnyH_takeT (i := 6) (t := 12) (v := ?_) rfl rfl (by kernel_rfl) (by kernel_rfl) (by kernel_rfl) (fun _ _ _ h => h) (Or.inl ⟨by rfl, ?_⟩) trivial ?_
    rotate_left
    · intro wq hSw
      go_simp
      try with_reducible rfl
    try go_frame
    refine wpAnyH_ready (rs := [3, 8, 9]) (by kernel_rfl) (by simp) (AllReadyH.cons rfl (fun K hK => ?_) (AllReadyH.cons rfl (fun K hK => ?_) (AllReadyH.cons rfl (fun K hK => ?_) AllReadyH.nil)))
    · go_simp
      go_wp2_with (first | (go_at_call 138; with_reducible refine (T0.out _ CC).mono ?_; rintro e2 w2 ⟨rfl, b2⟩) | fail)
      replace CC := blTr b2 CC
      clear b2
      refine hK.out _ _ trivial (fun hHeld2 => ?_)
      clear hK K hHeld2
      try go_frame
      generalize w2 = Y at *
      refine wpAnyH_ready (rs := [7, 8, 9]) (by kernel_rfl) (by simp) (AllReadyH.cons rfl (fun K hK => ?_) (AllReadyH.cons rfl (fun K hK => ?_) (AllReadyH.cons rfl (fun K hK => ?_) AllReadyH.nil)))
      · go_simp
        go_wp2_with (first | (go_at_call 138; with_reducible refine (T1.out _ CC).mono ?_; rintro e2 w2 ⟨rfl, b2⟩) | fail)
        replace CC := blTr b2 CC
        clear b2
        refine hK.out _ _ trivial (fun hHeld2 => ?_)
        clear hK K hHeld2
        try go_frame
        generalize w2 = Y at *
        refine wpAnyH_ready (rs := [8, 9]) (by kernel_rfl) (by simp) (AllReadyH.cons rfl (fun K hK => ?_) (AllReadyH.cons rfl (fun K hK => ?_) AllReadyH.nil))
        · go_simp
          refine hK.out _ _ trivial (fun hHeld2 => ?_)
          clear hK K hHeld2
          try go_frame
          have hA := heap_alloc_new Y (.cells #[.int .i64 0, .string ⟨#[]⟩, .int .i64 0, .int .i64 0] 106)
          have lA : W.heap.size ≤ Y.heap.size := CC.size
          replace CC := blAl CC (.cells #[.int .i64 0, .string ⟨#[]⟩, .int .i64 0, .int .i64 0] 106)
          generalize hY2 : World.alloc Y (.cells #[.int .i64 0, .string ⟨#[]⟩, .int .i64 0, .int .i64 0] 106) = Y2 at *
          clear hY2
          generalize Y.heap.size = bA at *
          clear Y
          generalize Y2 = Y at *
          refine wpAnyH_ready (rs := [9]) (by kernel_rfl) (by simp) (AllReadyH.cons rfl (fun K hK => ?_) AllReadyH.nil)
          go_simp
          refine hK.out _ _ trivial (fun hHeld2 => ?_)
          clear hK K hHeld2
          try go_frame
          have hB := heap_alloc_new Y (.cells #[.int .i64 0, .string ⟨#[]⟩, .int .i64 0, .int .i64 0] 106)
          have lB : W.heap.size ≤ Y.heap.size := CC.size
          have hne : bA ≠ Y.heap.size := (Nat.ne_of_lt (tk_lt hA))
          replace hA := (alloc_old Y (.cells #[.int .i64 0, .string ⟨#[]⟩, .int .i64 0, .int .i64 0] 106) bA (tk_lt hA)).trans hA
          replace CC := blAl CC (.cells #[.int .i64 0, .string ⟨#[]⟩, .int .i64 0, .int .i64 0] 106)
          generalize hY2 : World.alloc Y (.cells #[.int .i64 0, .string ⟨#[]⟩, .int .i64 0, .int .i64 0] 106) = Y2 at *
          clear hY2
          generalize Y.heap.size = bB at *
          clear Y
          generalize Y2 = Y at *
          obtain ⟨f0, f1, f2, f3⟩ := tk_fr hA
          obtain ⟨x0, x1, x2, x3⟩ := tk_cells hA
          obtain ⟨y0, y1, y2, y3⟩ := tk_cells hB
          obtain ⟨g0, g1, g2, g3⟩ := tk_fr hB
          refine wpAnyH_ready (rs := [10]) (by kernel_rfl) (by simp) (AllReadyH.cons rfl (fun K hK => ?_) AllReadyH.nil)
          go_simp
          refine hK.out _ _ trivial (fun hHeld2 => ?_)
          clear hK K hHeld2
          try go_frame
          refine wpAnyH_ready (rs := [11]) (by kernel_rfl) (by simp) (AllReadyH.cons rfl (fun K hK => ?_) AllReadyH.nil)
          go_simp
          refine hK.out _ _ trivial (fun hHeld2 => ?_)
          clear hK K hHeld2
          try go_frame
          refine wpAnyH_done (by kernel_rfl) ?_ _
          go_wp2_with fail
          go_meet
          case rel => exact ⟨_, _, rfl, rfl, tk_put hA hB hne lA lB CC⟩
        · go_simp
          refine hK.out _ _ trivial (fun hHeld2 => ?_)
          clear hK K hHeld2
          try go_frame
          have hB := heap_alloc_new Y (.cells #[.int .i64 0, .string ⟨#[]⟩, .int .i64 0, .int .i64 0] 106)
          have lB : W.heap.size ≤ Y.heap.size := CC.size
          replace CC := blAl CC (.cells #[.int .i64 0, .string ⟨#[]⟩, .int .i64 0, .int .i64 0] 106)
          generalize hY2 : World.alloc Y (.cells #[.int .i64 0, .string ⟨#[]⟩, .int .i64 0, .int .i64 0] 106) = Y2 at *
          clear hY2
          generalize Y.heap.size = bB at *
          clear Y
          generalize Y2 = Y at *
          refine wpAnyH_ready (rs := [8]) (by kernel_rfl) (by simp) (AllReadyH.cons rfl (fun K hK => ?_) AllReadyH.nil)
          go_simp
          refine hK.out _ _ trivial (fun hHeld2 => ?_)
          clear hK K hHeld2
          try go_frame
          have hA := heap_alloc_new Y (.cells #[.int .i64 0, .string ⟨#[]⟩, .int .i64 0, .int .i64 0] 106)
          have lA : W.heap.size ≤ Y.heap.size := CC.size
          have hne : Y.heap.size ≠ bB := (Nat.ne_of_gt (tk_lt hB))
          replace hB := (alloc_old Y (.cells #[.int .i64 0, .string ⟨#[]⟩, .int .i64 0, .int .i64 0] 106) bB (tk_lt hB)).trans hB
          replace CC := blAl CC (.cells #[.int .i64 0, .string ⟨#[]⟩, .int .i64 0, .int .i64 0] 106)
          generalize hY2 : World.alloc Y (.cells #[.int .i64 0, .string ⟨#[]⟩, .int .i64 0, .int .i64 0] 106) = Y2 at *
          clear hY2
          generalize Y.heap.size = bA at *
          clear Y
          generalize Y2 = Y at *
          obtain ⟨f0, f1, f2, f3⟩ := tk_fr hA
          obtain ⟨x0, x1, x2, x3⟩ := tk_cells hA
          obtain ⟨y0, y1, y2, y3⟩ := tk_cells hB
          obtain ⟨g0, g1, g2, g3⟩ := tk_fr hB
          refine wpAnyH_ready (rs := [10]) (by kernel_rfl) (by simp) (AllReadyH.cons rfl (fun K hK => ?_) AllReadyH.nil)
          go_simp
          refine hK.out _ _ trivial (fun hHeld2 => ?_)
          clear hK K hHeld2
          try go_frame
          refine wpAnyH_ready (rs := [11]) (by kernel_rfl) (by simp) (AllReadyH.cons rfl (fun K hK => ?_) AllReadyH.nil)
          go_simp
          refine hK.out _ _ trivial (fun hHeld2 => ?_)
          clear hK K hHeld2
          try go_frame
          refine wpAnyH_done (by kernel_rfl) ?_ _
          go_wp2_with fail
          go_meet
          case rel => exact ⟨_, _, rfl, rfl, tk_put hA hB hne lA lB CC⟩
      · go_simp
        refine hK.out _ _ trivial (fun hHeld2 => ?_)
        clear hK K hHeld2
        try go_frame
        have hA := heap_alloc_new Y (.cells #[.int .i64 0, .string ⟨#[]⟩, .int .i64 0, .int .i64 0] 106)
        have lA : W.heap.size ≤ Y.heap.size := CC.size
        replace CC := blAl CC (.cells #[.int .i64 0, .string ⟨#[]⟩, .int .i64 0, .int .i64 0] 106)
        generalize hY2 : World.alloc Y (.cells #[.int .i64 0, .string ⟨#[]⟩, .int .i64 0, .int .i64 0] 106) = Y2 at *
        clear hY2
        generalize Y.heap.size = bA at *
        clear Y
        generalize Y2 = Y at *
        refine wpAnyH_ready (rs := [7, 9]) (by kernel_rfl) (by simp) (AllReadyH.cons rfl (fun K hK => ?_) (AllReadyH.cons rfl (fun K hK => ?_) AllReadyH.nil))
        · go_simp
          go_wp2_with (first | (go_at_call 138; with_reducible refine (T1.out _ CC).mono ?_; rintro e2 w2 ⟨rfl, b2⟩) | fail)
          replace hA := (b2.block _ (tk_lt hA)).trans hA
          replace CC := blTr b2 CC
          clear b2
          refine hK.out _ _ trivial (fun hHeld2 => ?_)
          clear hK K hHeld2
          try go_frame
          generalize w2 = Y at *
          refine wpAnyH_ready (rs := [9]) (by kernel_rfl) (by simp) (AllReadyH.cons rfl (fun K hK => ?_) AllReadyH.nil)
          go_simp
          refine hK.out _ _ trivial (fun hHeld2 => ?_)
          clear hK K hHeld2
          try go_frame
          have hB := heap_alloc_new Y (.cells #[.int .i64 0, .string ⟨#[]⟩, .int .i64 0, .int .i64 0] 106)
          have lB : W.heap.size ≤ Y.heap.size := CC.size
          have hne : bA ≠ Y.heap.size := (Nat.ne_of_lt (tk_lt hA))
          replace hA := (alloc_old Y (.cells #[.int .i64 0, .string ⟨#[]⟩, .int .i64 0, .int .i64 0] 106) bA (tk_lt hA)).trans hA
          replace CC := blAl CC (.cells #[.int .i64 0, .string ⟨#[]⟩, .int .i64 0, .int .i64 0] 106)
          generalize hY2 : World.alloc Y (.cells #[.int .i64 0, .string ⟨#[]⟩, .int .i64 0, .int .i64 0] 106) = Y2 at *
          clear hY2
          generalize Y.heap.size = bB at *
          clear Y
          generalize Y2 = Y at *
          obtain ⟨f0, f1, f2, f3⟩ := tk_fr hA
          obtain ⟨x0, x1, x2, x3⟩ := tk_cells hA
          obtain ⟨y0, y1, y2, y3⟩ := tk_cells hB
          obtain ⟨g0, g1, g2, g3⟩ := tk_fr hB
          refine wpAnyH_ready (rs := [10]) (by kernel_rfl) (by simp) (AllReadyH.cons rfl (fun K hK => ?_) AllReadyH.nil)
          go_simp
          refine hK.out _ _ trivial (fun hHeld2 => ?_)
          clear hK K hHeld2
          try go_frame
          refine wpAnyH_ready (rs := [11]) (by kernel_rfl) (by simp) (AllReadyH.cons rfl (fun K hK => ?_) AllReadyH.nil)
          go_simp
          refine hK.out _ _ trivial (fun hHeld2 => ?_)
          clear hK K hHeld2
          try go_frame
          refine wpAnyH_done (by kernel_rfl) ?_ _
          go_wp2_with fail
          go_meet
          case rel => exact ⟨_, _, rfl, rfl, tk_put hA hB hne lA lB CC⟩
        · go_simp
          refine hK.out _ _ trivial (fun hHeld2 => ?_)
          clear hK K hHeld2
          try go_frame
          have hB := heap_alloc_new Y (.cells #[.int .i64 0, .string ⟨#[]⟩, .int .i64 0, .int .i64 0] 106)
          have lB : W.heap.size ≤ Y.heap.size := CC.size
          have hne : bA ≠ Y.heap.size := (Nat.ne_of_lt (tk_lt hA))
          replace hA := (alloc_old Y (.cells #[.int .i64 0, .string ⟨#[]⟩, .int .i64 0, .int .i64 0] 106) bA (tk_lt hA)).trans hA
          replace CC := blAl CC (.cells #[.int .i64 0, .string ⟨#[]⟩, .int .i64 0, .int .i64 0] 106)
          generalize hY2 : World.alloc Y (.cells #[.int .i64 0, .string ⟨#[]⟩, .int .i64 0, .int .i64 0] 106) = Y2 at *
          clear hY2
          generalize Y.heap.size = bB at *
          clear Y
          generalize Y2 = Y at *
          refine wpAnyH_ready (rs := [7]) (by kernel_rfl) (by simp) (AllReadyH.cons rfl (fun K hK => ?_) AllReadyH.nil)
          go_simp
          go_wp2_with (first | (go_at_call 138; with_reducible refine (T1.out _ CC).mono ?_; rintro e2 w2 ⟨rfl, b2⟩) | fail)
          replace hA := (b2.block _ (tk_lt hA)).trans hA
          replace hB := (b2.block _ (tk_lt hB)).trans hB
          replace CC := blTr b2 CC
          clear b2
          refine hK.out _ _ trivial (fun hHeld2 => ?_)
          clear hK K hHeld2
          try go_frame
          generalize w2 = Y at *
          obtain ⟨f0, f1, f2, f3⟩ := tk_fr hA
          obtain ⟨x0, x1, x2, x3⟩ := tk_cells hA
          obtain ⟨y0, y1, y2, y3⟩ := tk_cells hB
          obtain ⟨g0, g1, g2, g3⟩ := tk_fr hB
          refine wpAnyH_ready (rs := [10]) (by kernel_rfl) (by simp) (AllReadyH.cons rfl (fun K hK => ?_) AllReadyH.nil)
          go_simp
          refine hK.out _ _ trivial (fun hHeld2 => ?_)
          clear hK K hHeld2
          try go_frame
          refine wpAnyH_ready (rs := [11]) (by kernel_rfl) (by simp) (AllReadyH.cons rfl (fun K hK => ?_) AllReadyH.nil)
          go_simp
          refine hK.out _ _ trivial (fun hHeld2 => ?_)
          clear hK K hHeld2
          try go_frame
          refine wpAnyH_done (by kernel_rfl) ?_ _
          go_wp2_with fail
          go_meet
          case rel => exact ⟨_, _, rfl, rfl, tk_put hA hB hne lA lB CC⟩
      · go_simp
        refine hK.out _ _ trivial (fun hHeld2 => ?_)
        clear hK K hHeld2
        try go_frame
        have hB := heap_alloc_new Y (.cells #[.int .i64 0, .string ⟨#[]⟩, .int .i64 0, .int .i64 0] 106)
        have lB : W.heap.size ≤ Y.heap.size := CC.size
        replace CC := blAl CC (.cells #[.int .i64 0, .string ⟨#[]⟩, .int .i64 0, .int .i64 0] 106)
        generalize hY2 : World.alloc Y (.cells #[.int .i64 0, .string ⟨#[]⟩, .int .i64 0, .int .i64 0] 106) = Y2 at *
        clear hY2
        generalize Y.heap.size = bB at *
        clear Y
        generalize Y2 = Y at *
        refine wpAnyH_ready (rs := [7, 8]) (by kernel_rfl) (by simp) (AllReadyH.cons rfl (fun K hK => ?_) (AllReadyH.cons rfl (fun K hK => ?_) AllReadyH.nil))
        · go_simp
          go_wp2_with (first | (go_at_call 138; with_reducible refine (T1.out _ CC).mono ?_; rintro e2 w2 ⟨rfl, b2⟩) | fail)
          replace hB := (b2.block _ (tk_lt hB)).trans hB
          replace CC := blTr b2 CC
          clear b2
          refine hK.out _ _ trivial (fun hHeld2 => ?_)
          clear hK K hHeld2
          try go_frame
          generalize w2 = Y at *
          refine wpAnyH_ready (rs := [8]) (by kernel_rfl) (by simp) (AllReadyH.cons rfl (fun K hK => ?_) AllReadyH.nil)
          go_simp
          refine hK.out _ _ trivial (fun hHeld2 => ?_)
          clear hK K hHeld2
          try go_frame
          have hA := heap_alloc_new Y (.cells #[.int .i64 0, .string ⟨#[]⟩, .int .i64 0, .int .i64 0] 106)
          have lA : W.heap.size ≤ Y.heap.size := CC.size
          have hne : Y.heap.size ≠ bB := (Nat.ne_of_gt (tk_lt hB))
          replace hB := (alloc_old Y (.cells #[.int .i64 0, .string ⟨#[]⟩, .int .i64 0, .int .i64 0] 106) bB (tk_lt hB)).trans hB
          replace CC := blAl CC (.cells #[.int .i64 0, .string ⟨#[]⟩, .int .i64 0, .int .i64 0] 106)
          generalize hY2 : World.alloc Y (.cells #[.int .i64 0, .string ⟨#[]⟩, .int .i64 0, .int .i64 0] 106) = Y2 at *
          clear hY2
          generalize Y.heap.size = bA at *
          clear Y
          generalize Y2 = Y at *
          obtain ⟨f0, f1, f2, f3⟩ := tk_fr hA
          obtain ⟨x0, x1, x2, x3⟩ := tk_cells hA
          obtain ⟨y0, y1, y2, y3⟩ := tk_cells hB
          obtain ⟨g0, g1, g2, g3⟩ := tk_fr hB
          refine wpAnyH_ready (rs := [10]) (by kernel_rfl) (by simp) (AllReadyH.cons rfl (fun K hK => ?_) AllReadyH.nil)
          go_simp
          refine hK.out _ _ trivial (fun hHeld2 => ?_)
          clear hK K hHeld2
          try go_frame
          refine wpAnyH_ready (rs := [11]) (by kernel_rfl) (by simp) (AllReadyH.cons rfl (fun K hK => ?_) AllReadyH.nil)
          go_simp
          refine hK.out _ _ trivial (fun hHeld2 => ?_)
          clear hK K hHeld2
          try go_frame
          refine wpAnyH_done (by kernel_rfl) ?_ _
          go_wp2_with fail
          go_meet
          case rel => exact ⟨_, _, rfl, rfl, tk_put hA hB hne lA lB CC⟩
        · go_simp
          refine hK.out _ _ trivial (fun hHeld2 => ?_)
          clear hK K hHeld2
          try go_frame
          have hA := heap_alloc_new Y (.cells #[.int .i64 0, .string ⟨#[]⟩, .int .i64 0, .int .i64 0] 106)
          have lA : W.heap.size ≤ Y.heap.size := CC.size
          have hne : Y.heap.size ≠ bB := (Nat.ne_of_gt (tk_lt hB))
          replace hB := (alloc_old Y (.cells #[.int .i64 0, .string ⟨#[]⟩, .int .i64 0, .int .i64 0] 106) bB (tk_lt hB)).trans hB
          replace CC := blAl CC (.cells #[.int .i64 0, .string ⟨#[]⟩, .int .i64 0, .int .i64 0] 106)
          generalize hY2 : World.alloc Y (.cells #[.int .i64 0, .string ⟨#[]⟩, .int .i64 0, .int .i64 0] 106) = Y2 at *
          clear hY2
          generalize Y.heap.size = bA at *
          clear Y
          generalize Y2 = Y at *
          refine wpAnyH_ready (rs := [7]) (by kernel_rfl) (by simp) (AllReadyH.cons rfl (fun K hK => ?_) AllReadyH.nil)
          go_simp
          go_wp2_with (first | (go_at_call 138; with_reducible refine (T1.out _ CC).mono ?_; rintro e2 w2 ⟨rfl, b2⟩) | fail)
          replace hA := (b2.block _ (tk_lt hA)).trans hA
          replace hB := (b2.block _ (tk_lt hB)).trans hB
          replace CC := blTr b2 CC
          clear b2
          refine hK.out _ _ trivial (fun hHeld2 => ?_)
          clear hK K hHeld2
          try go_frame
          generalize w2 = Y at *
          obtain ⟨f0, f1, f2, f3⟩ := tk_fr hA
          obtain ⟨x0, x1, x2, x3⟩ := tk_cells hA
          obtain ⟨y0, y1, y2, y3⟩ := tk_cells hB
          obtain ⟨g0, g1, g2, g3⟩ := tk_fr hB
          refine wpAnyH_ready (rs := [10]) (by kernel_rfl) (by simp) (AllReadyH.cons rfl (fun K hK => ?_) AllReadyH.nil)
          go_simp
          refine hK.out _ _ trivial (fun hHeld2 => ?_)
          clear hK K hHeld2
          try go_frame
          refine wpAnyH_ready (rs := [11]) (by kernel_rfl) (by simp) (AllReadyH.cons rfl (fun K hK => ?_) AllReadyH.nil)
          go_simp
          refine hK.out _ _ trivial (fun hHeld2 => ?_)
          clear hK K hHeld2
          try go_frame
          refine wpAnyH_done (by kernel_rfl) ?_ _
          go_wp2_with fail
          go_meet
          case rel => exact ⟨_, _, rfl, rfl, tk_put hA hB hne lA lB CC⟩
    · go_simp
      refine hK.out _ _ trivial (fun hHeld2 => ?_)
      clear hK K hHeld2
      try go_frame
      have hA := heap_alloc_new Y (.cells #[.int .i64 0, .string ⟨#[]⟩, .int .i64 0, .int .i64 0] 106)
      have lA : W.heap.size ≤ Y.heap.size := CC.size
      replace CC := blAl CC (.cells #[.int .i64 0, .string ⟨#[]⟩, .int .i64 0, .int .i64 0] 106)
      generalize hY2 : World.alloc Y (.cells #[.int .i64 0, .string ⟨#[]⟩, .int .i64 0, .int .i64 0] 106) = Y2 at *
      clear hY2
      generalize Y.heap.size = bA at *
      clear Y
      generalize Y2 = Y at *
      refine wpAnyH_ready (rs := [3, 9]) (by kernel_rfl) (by simp) (AllReadyH.cons rfl (fun K hK => ?_) (AllReadyH.cons rfl (fun K hK => ?_) AllReadyH.nil))
      · go_simp
        go_wp2_with (first | (go_at_call 138; with_reducible refine (T0.out _ CC).mono ?_; rintro e2 w2 ⟨rfl, b2⟩) | fail)
        replace hA := (b2.block _ (tk_lt hA)).trans hA
        replace CC := blTr b2 CC
        clear b2
        refine hK.out _ _ trivial (fun hHeld2 => ?_)
        clear hK K hHeld2
        try go_frame
        generalize w2 = Y at *
        refine wpAnyH_ready (rs := [7, 9]) (by kernel_rfl) (by simp) (AllReadyH.cons rfl (fun K hK => ?_) (AllReadyH.cons rfl (fun K hK => ?_) AllReadyH.nil))
        · go_simp
          go_wp2_with (first | (go_at_call 138; with_reducible refine (T1.out _ CC).mono ?_; rintro e2 w2 ⟨rfl, b2⟩) | fail)
          replace hA := (b2.block _ (tk_lt hA)).trans hA
          replace CC := blTr b2 CC
          clear b2
          refine hK.out _ _ trivial (fun hHeld2 => ?_)
          clear hK K hHeld2
          try go_frame
          generalize w2 = Y at *
          refine wpAnyH_ready (rs := [9]) (by kernel_rfl) (by simp) (AllReadyH.cons rfl (fun K hK => ?_) AllReadyH.nil)
          go_simp
          refine hK.out _ _ trivial (fun hHeld2 => ?_)
          clear hK K hHeld2
          try go_frame
          have hB := heap_alloc_new Y (.cells #[.int .i64 0, .string ⟨#[]⟩, .int .i64 0, .int .i64 0] 106)
          have lB : W.heap.size ≤ Y.heap.size := CC.size
          have hne : bA ≠ Y.heap.size := (Nat.ne_of_lt (tk_lt hA))
          replace hA := (alloc_old Y (.cells #[.int .i64 0, .string ⟨#[]⟩, .int .i64 0, .int .i64 0] 106) bA (tk_lt hA)).trans hA
          replace CC := blAl CC (.cells #[.int .i64 0, .string ⟨#[]⟩, .int .i64 0, .int .i64 0] 106)
          generalize hY2 : World.alloc Y (.cells #[.int .i64 0, .string ⟨#[]⟩, .int .i64 0, .int .i64 0] 106) = Y2 at *
          clear hY2
          generalize Y.heap.size = bB at *
          clear Y
          generalize Y2 = Y at *
          obtain ⟨f0, f1, f2, f3⟩ := tk_fr hA
          obtain ⟨x0, x1, x2, x3⟩ := tk_cells hA
          obtain ⟨y0, y1, y2, y3⟩ := tk_cells hB
          obtain ⟨g0, g1, g2, g3⟩ := tk_fr hB
          refine wpAnyH_ready (rs := [10]) (by kernel_rfl) (by simp) (AllReadyH.cons rfl (fun K hK => ?_) AllReadyH.nil)
          go_simp
          refine hK.out _ _ trivial (fun hHeld2 => ?_)
          clear hK K hHeld2
          try go_frame
          refine wpAnyH_ready (rs := [11]) (by kernel_rfl) (by simp) (AllReadyH.cons rfl (fun K hK => ?_) AllReadyH.nil)
          go_simp
          refine hK.out _ _ trivial (fun hHeld2 => ?_)
          clear hK K hHeld2
          try go_frame
          refine wpAnyH_done (by kernel_rfl) ?_ _
          go_wp2_with fail
          go_meet
          case rel => exact ⟨_, _, rfl, rfl, tk_put hA hB hne lA lB CC⟩
        · go_simp
          refine hK.out _ _ trivial (fun hHeld2 => ?_)
          clear hK K hHeld2
          try go_frame
          have hB := heap_alloc_new Y (.cells #[.int .i64 0, .string ⟨#[]⟩, .int .i64 0, .int .i64 0] 106)
          have lB : W.heap.size ≤ Y.heap.size := CC.size
          have hne : bA ≠ Y.heap.size := (Nat.ne_of_lt (tk_lt hA))
          replace hA := (alloc_old Y (.cells #[.int .i64 0, .string ⟨#[]⟩, .int .i64 0, .int .i64 0] 106) bA (tk_lt hA)).trans hA
          replace CC := blAl CC (.cells #[.int .i64 0, .string ⟨#[]⟩, .int .i64 0, .int .i64 0] 106)
          generalize hY2 : World.alloc Y (.cells #[.int .i64 0, .string ⟨#[]⟩, .int .i64 0, .int .i64 0] 106) = Y2 at *
          clear hY2
          generalize Y.heap.size = bB at *
          clear Y
          generalize Y2 = Y at *
          refine wpAnyH_ready (rs := [7]) (by kernel_rfl) (by simp) (AllReadyH.cons rfl (fun K hK => ?_) AllReadyH.nil)
          go_simp
          go_wp2_with (first | (go_at_call 138; with_reducible refine (T1.out _ CC).mono ?_; rintro e2 w2 ⟨rfl, b2⟩) | fail)
          replace hA := (b2.block _ (tk_lt hA)).trans hA
          replace hB := (b2.block _ (tk_lt hB)).trans hB
          replace CC := blTr b2 CC
          clear b2
          refine hK.out _ _ trivial (fun hHeld2 => ?_)
          clear hK K hHeld2
          try go_frame
          generalize w2 = Y at *
          obtain ⟨f0, f1, f2, f3⟩ := tk_fr hA
          obtain ⟨x0, x1, x2, x3⟩ := tk_cells hA
          obtain ⟨y0, y1, y2, y3⟩ := tk_cells hB
          obtain ⟨g0, g1, g2, g3⟩ := tk_fr hB
          refine wpAnyH_ready (rs := [10]) (by kernel_rfl) (by simp) (AllReadyH.cons rfl (fun K hK => ?_) AllReadyH.nil)
          go_simp
          refine hK.out _ _ trivial (fun hHeld2 => ?_)
          clear hK K hHeld2
          try go_frame
          refine wpAnyH_ready (rs := [11]) (by kernel_rfl) (by simp) (AllReadyH.cons rfl (fun K hK => ?_) AllReadyH.nil)
          go_simp
          refine hK.out _ _ trivial (fun hHeld2 => ?_)
          clear hK K hHeld2
          try go_frame
          refine wpAnyH_done (by kernel_rfl) ?_ _
          go_wp2_with fail
          go_meet
          case rel => exact ⟨_, _, rfl, rfl, tk_put hA hB hne lA lB CC⟩
      · go_simp
        refine hK.out _ _ trivial (fun hHeld2 => ?_)
        clear hK K hHeld2
        try go_frame
        have hB := heap_alloc_new Y (.cells #[.int .i64 0, .string ⟨#[]⟩, .int .i64 0, .int .i64 0] 106)
        have lB : W.heap.size ≤ Y.heap.size := CC.size
        have hne : bA ≠ Y.heap.size := (Nat.ne_of_lt (tk_lt hA))
        replace hA := (alloc_old Y (.cells #[.int .i64 0, .string ⟨#[]⟩, .int .i64 0, .int .i64 0] 106) bA (tk_lt hA)).trans hA
        replace CC := blAl CC (.cells #[.int .i64 0, .string ⟨#[]⟩, .int .i64 0, .int .i64 0] 106)
        generalize hY2 : World.alloc Y (.cells #[.int .i64 0, .string ⟨#[]⟩, .int .i64 0, .int .i64 0] 106) = Y2 at *
        clear hY2
        generalize Y.heap.size = bB at *
        clear Y
        generalize Y2 = Y at *
        refine wpAnyH_ready (rs := [3]) (by kernel_rfl) (by simp) (AllReadyH.cons rfl (fun K hK => ?_) AllReadyH.nil)
        go_simp
        go_wp2_with (first | (go_at_call 138; with_reducible refine (T0.out _ CC).mono ?_; rintro e2 w2 ⟨rfl, b2⟩) | fail)
        replace hA := (b2.block _ (tk_lt hA)).trans hA
        replace hB := (b2.block _ (tk_lt hB)).trans hB
        replace CC := blTr b2 CC
        clear b2
        refine hK.out _ _ trivial (fun hHeld2 => ?_)
        clear hK K hHeld2
        try go_frame
        generalize w2 = Y at *
        refine wpAnyH_ready (rs := [7]) (by kernel_rfl) (by simp) (AllReadyH.cons rfl (fun K hK => ?_) AllReadyH.nil)
        go_simp
        go_wp2_with (first | (go_at_call 138; with_reducible refine (T1.out _ CC).mono ?_; rintro e2 w2 ⟨rfl, b2⟩) | fail)
        replace hA := (b2.block _ (tk_lt hA)).trans hA
        replace hB := (b2.block _ (tk_lt hB)).trans hB
        replace CC := blTr b2 CC
        clear b2
        refine hK.out _ _ trivial (fun hHeld2 => ?_)
        clear hK K hHeld2
        try go_frame
        generalize w2 = Y at *
        obtain ⟨f0, f1, f2, f3⟩ := tk_fr hA
        obtain ⟨x0, x1, x2, x3⟩ := tk_cells hA
        obtain ⟨y0, y1, y2, y3⟩ := tk_cells hB
        obtain ⟨g0, g1, g2, g3⟩ := tk_fr hB
        refine wpAnyH_ready (rs := [10]) (by kernel_rfl) (by simp) (AllReadyH.cons rfl (fun K hK => ?_) AllReadyH.nil)
        go_simp
        refine hK.out _ _ trivial (fun hHeld2 => ?_)
        clear hK K hHeld2
        try go_frame
        refine wpAnyH_ready (rs := [11]) (by kernel_rfl) (by simp) (AllReadyH.cons rfl (fun K hK => ?_) AllReadyH.nil)
        go_simp
        refine hK.out _ _ trivial (fun hHeld2 => ?_)
        clear hK K hHeld2
        try go_frame
        refine wpAnyH_done (by kernel_rfl) ?_ _
        go_wp2_with fail
        go_meet
        case rel => exact ⟨_, _, rfl, rfl, tk_put hA hB hne lA lB CC⟩
    · go_simp
      refine hK.out _ _ trivial (fun hHeld2 => ?_)
      clear hK K hHeld2
      try go_frame
      have hB := heap_alloc_new Y (.cells #[.int .i64 0, .string ⟨#[]⟩, .int .i64 0, .int .i64 0] 106)
      have lB : W.heap.size ≤ Y.heap.size := CC.size
      replace CC := blAl CC (.cells #[.int .i64 0, .string ⟨#[]⟩, .int .i64 0, .int .i64 0] 106)
      generalize hY2 : World.alloc Y (.cells #[.int .i64 0, .string ⟨#[]⟩, .int .i64 0, .int .i64 0] 106) = Y2 at *
      clear hY2
      generalize Y.heap.size = bB at *
      clear Y
      generalize Y2 = Y at *
      refine wpAnyH_ready (rs := [3, 8]) (by kernel_rfl) (by simp) (AllReadyH.cons rfl (fun K hK => ?_) (AllReadyH.cons rfl (fun K hK => ?_) AllReadyH.nil))
      · go_simp
        go_wp2_with (first | (go_at_call 138; with_reducible refine (T0.out _ CC).mono ?_; rintro e2 w2 ⟨rfl, b2⟩) | fail)
        replace hB := (b2.block _ (tk_lt hB)).trans hB
        replace CC := blTr b2 CC
        clear b2
        refine hK.out _ _ trivial (fun hHeld2 => ?_)
        clear hK K hHeld2
        try go_frame
        generalize w2 = Y at *
        refine wpAnyH_ready (rs := [7, 8]) (by kernel_rfl) (by simp) (AllReadyH.cons rfl (fun K hK => ?_) (AllReadyH.cons rfl (fun K hK => ?_) AllReadyH.nil))
        · go_simp
          go_wp2_with (first | (go_at_call 138; with_reducible refine (T1.out _ CC).mono ?_; rintro e2 w2 ⟨rfl, b2⟩) | fail)
          replace hB := (b2.block _ (tk_lt hB)).trans hB
          replace CC := blTr b2 CC
          clear b2
          refine hK.out _ _ trivial (fun hHeld2 => ?_)
          clear hK K hHeld2
          try go_frame
          generalize w2 = Y at *
          refine wpAnyH_ready (rs := [8]) (by kernel_rfl) (by simp) (AllReadyH.cons rfl (fun K hK => ?_) AllReadyH.nil)
          go_simp
          refine hK.out _ _ trivial (fun hHeld2 => ?_)
          clear hK K hHeld2
          try go_frame
          have hA := heap_alloc_new Y (.cells #[.int .i64 0, .string ⟨#[]⟩, .int .i64 0, .int .i64 0] 106)
          have lA : W.heap.size ≤ Y.heap.size := CC.size
          have hne : Y.heap.size ≠ bB := (Nat.ne_of_gt (tk_lt hB))
          replace hB := (alloc_old Y (.cells #[.int .i64 0, .string ⟨#[]⟩, .int .i64 0, .int .i64 0] 106) bB (tk_lt hB)).trans hB
          replace CC := blAl CC (.cells #[.int .i64 0, .string ⟨#[]⟩, .int .i64 0, .int .i64 0] 106)
          generalize hY2 : World.alloc Y (.cells #[.int .i64 0, .string ⟨#[]⟩, .int .i64 0, .int .i64 0] 106) = Y2 at *
          clear hY2
          generalize Y.heap.size = bA at *
          clear Y
          generalize Y2 = Y at *
          obtain ⟨f0, f1, f2, f3⟩ := tk_fr hA
          obtain ⟨x0, x1, x2, x3⟩ := tk_cells hA
          obtain ⟨y0, y1, y2, y3⟩ := tk_cells hB
          obtain ⟨g0, g1, g2, g3⟩ := tk_fr hB
          refine wpAnyH_ready (rs := [10]) (by kernel_rfl) (by simp) (AllReadyH.cons rfl (fun K hK => ?_) AllReadyH.nil)
          go_simp
          refine hK.out _ _ trivial (fun hHeld2 => ?_)
          clear hK K hHeld2
          try go_frame
          refine wpAnyH_ready (rs := [11]) (by kernel_rfl) (by simp) (AllReadyH.cons rfl (fun K hK => ?_) AllReadyH.nil)
          go_simp
          refine hK.out _ _ trivial (fun hHeld2 => ?_)
          clear hK K hHeld2
          try go_frame
          refine wpAnyH_done (by kernel_rfl) ?_ _
          go_wp2_with fail
          go_meet
          case rel => exact ⟨_, _, rfl, rfl, tk_put hA hB hne lA lB CC⟩
        · go_simp
          refine hK.out _ _ trivial (fun hHeld2 => ?_)
          clear hK K hHeld2
          try go_frame
          have hA := heap_alloc_new Y (.cells #[.int .i64 0, .string ⟨#[]⟩, .int .i64 0, .int .i64 0] 106)
          have lA : W.heap.size ≤ Y.heap.size := CC.size
          have hne : Y.heap.size ≠ bB := (Nat.ne_of_gt (tk_lt hB))
          replace hB := (alloc_old Y (.cells #[.int .i64 0, .string ⟨#[]⟩, .int .i64 0, .int .i64 0] 106) bB (tk_lt hB)).trans hB
          replace CC := blAl CC (.cells #[.int .i64 0, .string ⟨#[]⟩, .int .i64 0, .int .i64 0] 106)
          generalize hY2 : World.alloc Y (.cells #[.int .i64 0, .string ⟨#[]⟩, .int .i64 0, .int .i64 0] 106) = Y2 at *
          clear hY2
          generalize Y.heap.size = bA at *
          clear Y
          generalize Y2 = Y at *
          refine wpAnyH_ready (rs := [7]) (by kernel_rfl) (by simp) (AllReadyH.cons rfl (fun K hK => ?_) AllReadyH.nil)
          go_simp
          go_wp2_with (first | (go_at_call 138; with_reducible refine (T1.out _ CC).mono ?_; rintro e2 w2 ⟨rfl, b2⟩) | fail)
          replace hA := (b2.block _ (tk_lt hA)).trans hA
          replace hB := (b2.block _ (tk_lt hB)).trans hB
          replace CC := blTr b2 CC
          clear b2
          refine hK.out _ _ trivial (fun hHeld2 => ?_)
          clear hK K hHeld2
          try go_frame
          generalize w2 = Y at *
          obtain ⟨f0, f1, f2, f3⟩ := tk_fr hA
          obtain ⟨x0, x1, x2, x3⟩ := tk_cells hA
          obtain ⟨y0, y1, y2, y3⟩ := tk_cells hB
          obtain ⟨g0, g1, g2, g3⟩ := tk_fr hB
          refine wpAnyH_ready (rs := [10]) (by kernel_rfl) (by simp) (AllReadyH.cons rfl (fun K hK => ?_) AllReadyH.nil)
          go_simp
          refine hK.out _ _ trivial (fun hHeld2 => ?_)
          clear hK K hHeld2
          try go_frame
          refine wpAnyH_ready (rs := [11]) (by kernel_rfl) (by simp) (AllReadyH.cons rfl (fun K hK => ?_) AllReadyH.nil)
          go_simp
          refine hK.out _ _ trivial (fun hHeld2 => ?_)
          clear hK K hHeld2
          try go_frame
          refine wpAnyH_done (by kernel_rfl) ?_ _
          go_wp2_with fail
          go_meet
          case rel => exact ⟨_, _, rfl, rfl, tk_put hA hB hne lA lB CC⟩
      · go_simp
        refine hK.out _ _ trivial (fun hHeld2 => ?_)
        clear hK K hHeld2
        try go_frame
        have hA := heap_alloc_new Y (.cells #[.int .i64 0, .string ⟨#[]⟩, .int .i64 0, .int .i64 0] 106)
        have lA : W.heap.size ≤ Y.heap.size := CC.size
        have hne : Y.heap.size ≠ bB := (Nat.ne_of_gt (tk_lt hB))
        replace hB := (alloc_old Y (.cells #[.int .i64 0, .string ⟨#[]⟩, .int .i64 0, .int .i64 0] 106) bB (tk_lt hB)).trans hB
        replace CC := blAl CC (.cells #[.int .i64 0, .string ⟨#[]⟩, .int .i64 0, .int .i64 0] 106)
        generalize hY2 : World.alloc Y (.cells #[.int .i64 0, .string ⟨#[]⟩, .int .i64 0, .int .i64 0] 106) = Y2 at *
        clear hY2
        generalize Y.heap.size = bA at *
        clear Y
        generalize Y2 = Y at *
        refine wpAnyH_ready (rs := [3]) (by kernel_rfl) (by simp) (AllReadyH.cons rfl (fun K hK => ?_) AllReadyH.nil)
        go_simp
        go_wp2_with (first | (go_at_call 138; with_reducible refine (T0.out _ CC).mono ?_; rintro e2 w2 ⟨rfl, b2⟩) | fail)
        replace hA := (b2.block _ (tk_lt hA)).trans hA
        replace hB := (b2.block _ (tk_lt hB)).trans hB
        replace CC := blTr b2 CC
        clear b2
        refine hK.out _ _ trivial (fun hHeld2 => ?_)
        clear hK K hHeld2
        try go_frame
        generalize w2 = Y at *
        refine wpAnyH_ready (rs := [7]) (by kernel_rfl) (by simp) (AllReadyH.cons rfl (fun K hK => ?_) AllReadyH.nil)
        go_simp
        go_wp2_with (first | (go_at_call 138; with_reducible refine (T1.out _ CC).mono ?_; rintro e2 w2 ⟨rfl, b2⟩) | fail)
        replace hA := (b2.block _ (tk_lt hA)).trans hA
        replace hB := (b2.block _ (tk_lt hB)).trans hB
        replace CC := blTr b2 CC
        clear b2
        refine hK.out _ _ trivial (fun hHeld2 => ?_)
        clear hK K hHeld2
        try go_frame
        generalize w2 = Y at *
        obtain ⟨f0, f1, f2, f3⟩ := tk_fr hA
        obtain ⟨x0, x1, x2, x3⟩ := tk_cells hA
        obtain ⟨y0, y1, y2, y3⟩ := tk_cells hB
        obtain ⟨g0, g1, g2, g3⟩ := tk_fr hB
        refine wpAnyH_ready (rs := [10]) (by kernel_rfl) (by simp) (AllReadyH.cons rfl (fun K hK => ?_) AllReadyH.nil)
        go_simp
        refine hK.out _ _ trivial (fun hHeld2 => ?_)
        clear hK K hHeld2
        try go_frame
        refine wpAnyH_ready (rs := [11]) (by kernel_rfl) (by simp) (AllReadyH.cons rfl (fun K hK => ?_) AllReadyH.nil)
        go_simp
        refine hK.out _ _ trivial (fun hHeld2 => ?_)
        clear hK K hHeld2
        try go_frame
        refine wpAnyH_done (by kernel_rfl) ?_ _
        go_wp2_with fail
        go_meet
        case rel => exact ⟨_, _, rfl, rfl, tk_put hA hB hne lA lB CC⟩
  case rest =>
  obtain ⟨b4, b5, rfl, rfl, ⟨p0, p1, p2, p3⟩, ⟨q0, q1, q2, q3⟩, bx⟩ := hcut
  have B4 := hid bx
  have HNx := hid (HN.out _ (H0.out.below bx).gl)
  have hs0 : W.heap.size = w.heap.size + 1 := hsz0
  have HRs := hid (HRes.out.below bx (by omega))
  have l4 := cell_lt p0
  have l5 := cell_lt q0
  clear bx HN
  by_cases hy : a = 1 ∧ b = 5 ∧ t = [40]
  · have HR2 : Hid (calN s = R) := by show _ = _; rw [← HR.out, if_pos hy]
    obtain ⟨rfl, rfl, rfl⟩ := hy
    rw [HR2.out, HER.out, HSM.out] at HNx
    go_wp2_with (first
      | (go_at_call 176; go_loud (with_reducible refine HNx.out.mono ?_); rintro e5 w5 ⟨rfl, b5'⟩; have B5 := hid (B4.out.trans (b5'.mono B4.out.size)); have res5 := HRs.out.below b5' (Nat.lt_of_lt_of_le (by omega) B4.out.size); obtain ⟨z0, z1, z2, z3⟩ := res5.cells; have zf := res5.frozen; clear b5' res5)
      | fail)
    refine bodyPost_ret (by simp [results, Tryz.results139, go_sem, z0, z1, z2, z3]; try rfl) rfl ?_
    exact ⟨rfl, below_putC (HB0.out.trans (B5.out.mono HB0.out.size))⟩
  · have HR2 : Hid (R = none) := by show _ = _; rw [← HR.out, if_neg hy]
    obtain ⟨z0, z1, z2, z3⟩ := HRs.out.cells
    have zf := HRs.out.frozen
    have er := HER.out
    have em := HSM.out
    rw [HR2.out] at er em
    cases er
    cases em
    clear HNx HR HR2 HER HSM
    by_cases ha : a = 1
    · subst ha
      by_cases hb : b = 5
      · subst hb
        have ht : ¬ t = [40] := fun q => hy ⟨rfl, rfl, q⟩
        have ht' : (t == [40]) = false := by simpa using ht
        clear hy
        go_wp2_with fail
        refine bodyPost_ret (by simp [results, Tryz.results139, go_sem, z0, z1, z2, z3]; try rfl) rfl ?_
        exact ⟨rfl, below_putC (HB0.out.trans (B4.out.mono HB0.out.size))⟩
      · clear hy
        go_wp2_with fail
        refine bodyPost_ret (by simp [results, Tryz.results139, go_sem, z0, z1, z2, z3]; try rfl) rfl ?_
        exact ⟨rfl, below_putC (HB0.out.trans (B4.out.mono HB0.out.size))⟩
    · clear hy
      go_wp2_with fail
      refine bodyPost_ret (by simp [results, Tryz.results139, go_sem, z0, z1, z2, z3]; try rfl) rfl ?_
      exact ⟨rfl, below_putC (HB0.out.trans (B4.out.mono HB0.out.size))⟩
end Go.Proofs.YtblkhlhhlalbkaaGreatDoor
namespace Go.Proofs.YtblkhlhhlalbkaaGreatDoor
open Go.RowKit Go.Lib Go.Sort
set_option linter.unusedVariables false
set_option maxRecDepth 20000

/-- A variable that holds an expression, with its operands in memory. -/
def QB (eb N : Nat) (w : World) (e : Ex) : Prop := ∃ pe ce, BX w eb e pe ce ∧ ∃ k, EAt w (fun j => N ≤ j ∧ j ≠ eb) k e pe ∧ e.xs.length ≤ ce
theorem QB.chg {eb N rb : Nat} {w w' : World} {e : Ex} (h : QB eb N w e) (C : Chg (· = rb) w w') (he : eb ≠ rb) (hN : rb < N) : QB eb N w' e := by
  obtain ⟨pe, ce, hb, k, hk⟩ := h
  exact ⟨pe, ce, hb.chg C he, k, hk.1.chg C (fun j q r => by omega), hk.2⟩
set_option maxHeartbeats 8000000 in
theorem item1_any {w w0 : World} {rb b1 eb N : Nat} {p : Option Addr} {c : Nat} {xs l l0 : Ts} {d d0 : Nat} {g : Ts → Rd Ex} {e0 : Ex} {p0 : Option Addr} {c0 : Nat} (h : RS w rb p c xs l d) (h0 : RS w0 rb p c xs l0 d0) (hb0 : w0.heap.size ≤ eb) (hr : w.cell? ⟨b1, 0, none⟩ = some (.pointer (some ⟨rb, 0, none⟩))) (hb : BX w eb e0 p0 c0) (hN : N ≤ w.heap.size) (hG : LineOk rb p c xs d 142 #[.pointer (some ⟨rb + 25, 0, none⟩), .pointer (some ⟨rb + 23, 0, none⟩), .pointer (some ⟨rb + 24, 0, none⟩)] g) :
    Calls Tryz.prog 136 #[.pointer (some ⟨b1, 0, none⟩), .pointer (some ⟨eb, 0, none⟩)] w (RdG (fun k => k = rb ∨ k = eb) (fun w'' v a => v = .tuple #[] ∧ QB eb N w'' a) rb p c xs d (g l) w) := by
  have HP := hid (hG _ _ h)
  unfold RdE QX QF at HP
  have c3 := h.c3
  rw [orV_eq] at c3
  have H0 := hid h0
  have hlt0 := h0.lt
  have hltw : eb < w.heap.size := (Array.getElem?_eq_some_iff.1 hb).1
  have HB := hid hb
  clear h h0 hG
  cases hg : g l with
  | error x =>
    rw [hg] at HP
    simp only [] at HP
    go_enter Tryz.func136, Tryz.ntmps136
    go_wp2_with (first
      | (go_at_call 142; go_loud (with_reducible refine HP.out.mono ?_); rintro e1 w1 ⟨c1, b1, rfl, f1⟩)
      | fail)
    exact ⟨rfl, frl c1, b1, rfl, f1⟩
  | ok y =>
    obtain ⟨e, l1⟩ := y
    rw [hg] at HP
    simp only [] at HP
    go_enter Tryz.func136, Tryz.ntmps136
    go_wp2_with (first
      | (go_at_call 142; go_loud (with_reducible refine HP.out.mono ?_); rintro e1 w1 ⟨c1, v1, rfl, ⟨pe, ce, rfl, k1, E1, hcp1⟩, r1⟩; have C1 := hid c1; have HE1 := hid E1; have HR1 := hid r1; have bx := HB.out.chg c1 (show ¬ (eb = rb) by omega); have HBX := hid bx; obtain ⟨y0, y1, y2, y3, y4, y5, y6, y7, y8, y9⟩ := bx.xc; simp only [Nat.zero_add] at y0 y1 y2 y3 y4 y5 y6 y7 y8 y9; have yf := bx.frozen; clear c1 E1 r1 bx)
      | fail)
    have K := put10_chg w1 eb (.int .i64 e.k) (.int .i64 e.op) (.int .i64 e.v.k) (.int .i64 e.v.n) (.string e.v.s) (.string ⟨e.t.toArray⟩) (.string ⟨e.n.toArray⟩) (.int .i64 0) (.int .i64 0) (.slice pe e.xs.length ce)
    refine end0 rfl rfl ⟨?_, _, rfl, ⟨rfl, pe, ce, HBX.out.put, k1, ?_, hcp1⟩, H0.out.fresh HR1.out hb0 K⟩
    · exact frm (frl C1.out) (K.mono (fun j _ q => Or.inr q))
    · exact (HE1.out.mono (G := fun j => N ≤ j ∧ j ≠ eb) (fun j _ q => ⟨by omega, by omega⟩)).chg K (fun j q r => q.2 r)
/-- A call's cells. -/
def CX (w : World) (b : Nat) (k o : Int) (s : ByteArray) (n : Int) : Prop := w.cell? ⟨b, 0, none⟩ = some (.int .i64 k) ∧ w.cell? ⟨b, 1, none⟩ = some (.int .i64 o) ∧ w.cell? ⟨b, 2, none⟩ = some (.string s) ∧ w.cell? ⟨b, 3, none⟩ = some (.int .i64 n)
theorem CX.chg {F : Nat → Prop} {w w' : World} {b : Nat} {k o : Int} {s : ByteArray} {n : Int} (h : CX w b k o s n) (C : Chg F w w') (hn : ¬ F b) : CX w' b k o s n := ⟨C.cell h.1 hn, C.cell h.2.1 hn, C.cell h.2.2.1 hn, C.cell h.2.2.2 hn⟩
theorem cals_cnt : ∀ o ∈ cals, 1 ≤ o.cnt ∧ o.cnt ≤ 3 := by decide
theorem BX.args {w : World} {b : Nat} {k o : Int} {es : List Ex} {p : Option Addr} {c : Nat} (h : BX w b (mkE k o []) none 0) : BX (w.setCell ⟨b, 9, none⟩ (.slice p es.length c)) b (mkE k o es) p c := by
  have := heap_setCell_same w b 9 _ _ (.slice p es.length c) h
  simpa [BX, mkE] using this
set_option maxHeartbeats 16000000 in
theorem called1_any {w w0 : World} {rb b1 cb eb N : Nat} {p : Option Addr} {c : Nat} {xs l l0 : Ts} {d d0 : Nat} {g : Ts → Rd Ex} (o : Cal) (ho : o ∈ cals) (h : RS w rb p c xs l d) (h0 : RS w0 rb p c xs l0 d0) (hb0 : w0.heap.size ≤ eb) (hcb : cb ≠ rb) (hb1 : b1 ≠ rb) (hr : w.cell? ⟨b1, 0, none⟩ = some (.pointer (some ⟨rb, 0, none⟩))) (hcx : CX w cb o.kind o.op ⟨o.name.toArray⟩ (o.cnt : Int)) (hb : BX w eb (mkE o.kind o.op []) none 0) (hN : N ≤ w.heap.size) (hG : LineOk rb p c xs d 142 #[.pointer (some ⟨rb + 25, 0, none⟩), .pointer (some ⟨rb + 23, 0, none⟩), .pointer (some ⟨rb + 24, 0, none⟩)] g) :
    Calls Tryz.prog 177 #[.pointer (some ⟨cb, 0, none⟩), .pointer (some ⟨b1, 0, none⟩), .pointer (some ⟨eb, 0, none⟩)] w (RdG (fun k => k = rb ∨ k = eb) (fun w'' v a => v = .tuple #[] ∧ QB eb N w'' (mkE o.kind o.op a)) rb p c xs d (inP g o l) w) := by
  have HCt := hid (fun w => counts_any o w)
  have HTk := hid (fun w' (r : RS w' rb p c xs l d) => take_any 5 [42] r (by decide))
  have HOp := hid (fun w' l' (r : RS w' rb p c xs l' d) => operands_any o.cnt (cals_cnt o ho).1 (cals_cnt o ho).2 r hG)
  have HH := hid h
  have H0 := hid h0
  have HB := hid hb
  have HCX := hid hcx
  have hlt := h.lt
  have hlt0 := h0.lt
  have hltw : eb < w.heap.size := (Array.getElem?_eq_some_iff.1 hb).1
  obtain ⟨x0, x1, x2, x3⟩ := hcx
  have HHr := hid hr
  unfold inP
  clear h h0 hb hG
  cases hal : o.all with
  | true =>
    rw [hal] at HCt
    cases hs : stn 5 [42] l with
    | true =>
      rw [hs] at HTk
      simp only [if_true, Bool.and_self] at HTk ⊢
      go_enter Tryz.func177, Tryz.ntmps177
      go_wp2_with (first
        | (go_at_call 148; go_loud (with_reducible refine (HCt.out _).mono ?_); rintro e1 w1 ⟨rfl, b1'⟩; have B1 := hid b1'; have hr1 := lxbelow_cell b1' HHr.out; have TK := hid (HTk.out _ (HH.out.below b1')); clear b1')
        | (go_at_call 145; go_loud (with_reducible refine TK.out.mono ?_); rintro e2 w2 ⟨rfl, c2, r2⟩; have C2 := hid c2; have R2 := hid r2; clear c2 r2)
        | fail)
      have CC := chg_trans (chg_below (rb := rb) B1.out) C2.out
      refine ret0 rfl rfl ⟨frl CC, _, rfl, ⟨rfl, none, 0, HB.out.chg CC (show ¬ (eb = rb) by omega), 0, rfl, Nat.le_refl 0⟩, R2.out⟩
    | false =>
      rw [hs] at HTk
      simp only [Bool.false_eq_true, if_false, Bool.and_false] at HTk ⊢
      have HOp2 := hid (fun w' (r : RS w' rb p c xs l d) => HOp.out w' l r)
      unfold RdE QL at HOp
      cases hop : opsP g o.cnt l with
      | error x =>
        replace HOp := hid (fun w' (l' : Ts) (r : RS w' rb p c xs l d) => HOp2.out w' r)
        unfold RdE at HOp
        rw [hop] at HOp
        simp only [] at HOp
        replace HOp := hid (fun w' (l' : Unit) (r : RS w' rb p c xs l d) => HOp.out w' [] r)
        clear HOp2
        go_enter Tryz.func177, Tryz.ntmps177
        go_wp2_with (first
                  | (go_at_call 148; go_loud (with_reducible refine (HCt.out _).mono ?_); rintro e1 w1 ⟨rfl, b1'⟩; have B1 := hid b1'; have hr1 := lxbelow_cell b1' HHr.out; have TK := hid (HTk.out _ (HH.out.below b1')); have CC := hid (chg_below (rb := rb) b1'); have RC := hid (HH.out.below b1'); have x3' := lxbelow_cell b1' HCX.out.2.2.2; have OO := hid (HOp.out _ () (HH.out.below b1')); clear b1')
                  | (go_at_call 145; go_loud (with_reducible refine TK.out.mono ?_); rintro e2 w2 ⟨rfl, c2, r2⟩; have hr2 := c2.cell hr1 (show ¬ (b1 = rb) from hb1); have x3'' := c2.cell x3' (show ¬ (cb = rb) from hcb); have OO := hid (HOp.out _ () r2); replace CC := hid (chg_trans CC.out c2); have RC := hid r2; clear c2 r2)
                  | (go_at_call 178; go_loud (with_reducible refine OO.out.mono ?_); rintro e3 w3 ⟨c3, b3, rfl, f3⟩)
                  | fail)
        exact ⟨rfl, frl (chg_trans CC.out c3), b3, rfl, f3⟩
      | ok y =>
        obtain ⟨es, l2⟩ := y
        replace HOp := hid (fun w' (l' : Ts) (r : RS w' rb p c xs l d) => HOp2.out w' r)
        unfold RdE QL at HOp
        rw [hop] at HOp
        simp only [] at HOp
        replace HOp := hid (fun w' (l' : Unit) (r : RS w' rb p c xs l d) => HOp.out w' [] r)
        clear HOp2
        go_enter Tryz.func177, Tryz.ntmps177
        go_wp2_with (first
                  | (go_at_call 148; go_loud (with_reducible refine (HCt.out _).mono ?_); rintro e1 w1 ⟨rfl, b1'⟩; have B1 := hid b1'; have hr1 := lxbelow_cell b1' HHr.out; have TK := hid (HTk.out _ (HH.out.below b1')); have CC := hid (chg_below (rb := rb) b1'); have RC := hid (HH.out.below b1'); have x3' := lxbelow_cell b1' HCX.out.2.2.2; have OO := hid (HOp.out _ () (HH.out.below b1')); clear b1')
                  | (go_at_call 145; go_loud (with_reducible refine TK.out.mono ?_); rintro e2 w2 ⟨rfl, c2, r2⟩; have hr2 := c2.cell hr1 (show ¬ (b1 = rb) from hb1); have x3'' := c2.cell x3' (show ¬ (cb = rb) from hcb); have OO := hid (HOp.out _ () r2); replace CC := hid (chg_trans CC.out c2); have RC := hid r2; clear c2 r2)
                  | (go_at_call 178; go_loud (with_reducible refine OO.out.mono ?_); rintro e3 w3 ⟨c3, v3, rfl, ⟨els, rfl, O3, E3⟩, r3⟩; have C3 := hid c3; have HO3 := hid O3; have HE3 := hid E3; have HR3 := hid r3; have bx := HB.out.chg (chg_trans CC.out c3) (show ¬ (eb = rb) by omega); have HBX := hid bx; have y9 := bx.xc.2.2.2.2.2.2.2.2.2; simp only [Nat.zero_add] at y9; have yf := bx.frozen 9; obtain ⟨pv, cv, hv⟩ := O3.form; subst hv; have hCs := CC.out.size; have hcs := c3.size; clear c3 O3 E3 r3 bx)
                  | fail)
        have K : Chg (· = eb) w3 (w3.setCell ⟨eb, 9, none⟩ (.slice pv els.length cv)) := Chg.setCell (F := (· = eb)) (p := ⟨eb, 9, none⟩) (Chg.refl _ _) (Or.inl rfl) _
        obtain ⟨p', c', hv', hcp', n', hE'⟩ := HO3.out.eat (F := fun j => N ≤ j ∧ j ≠ eb) (fun j q => ⟨by omega, by omega⟩) (fun x hx => by obtain ⟨k, hk, hq⟩ := HE3.out x hx; exact ⟨k, hk.mono (fun j _ q => ⟨by omega, by omega⟩), hq⟩) o.kind o.op
        cases hv'
        have hBX : BX (w3.setCell ⟨eb, 9, none⟩ (.slice pv els.length cv)) eb (mkE o.kind o.op (els.map (·.1))) pv cv := by
          have := HBX.out.args (es := els.map (·.1)) (p := pv) (c := cv)
          rw [List.length_map] at this
          exact this
        exact end0 rfl rfl ⟨frm (frl (chg_trans CC.out C3.out)) (K.mono (fun j _ q => Or.inr q)), _, rfl, ⟨rfl, pv, cv, hBX, n', hE'.chg K (fun j q r => q.2 r), (by show (els.map (·.1)).length ≤ _; rw [List.length_map]; exact hcp')⟩, H0.out.fresh HR3.out hb0 K⟩
  | false =>
    rw [hal] at HCt
    simp only [Bool.false_and, Bool.false_eq_true, if_false] at HCt ⊢
    have HOp2 := hid (fun w' (r : RS w' rb p c xs l d) => HOp.out w' l r)
    unfold RdE QL at HOp
    cases hop : opsP g o.cnt l with
    | error x =>
      replace HOp := hid (fun w' (l' : Ts) (r : RS w' rb p c xs l d) => HOp2.out w' r)
      unfold RdE at HOp
      rw [hop] at HOp
      simp only [] at HOp
      replace HOp := hid (fun w' (l' : Unit) (r : RS w' rb p c xs l d) => HOp.out w' [] r)
      clear HOp2
      go_enter Tryz.func177, Tryz.ntmps177
      go_wp2_with (first
                | (go_at_call 148; go_loud (with_reducible refine (HCt.out _).mono ?_); rintro e1 w1 ⟨rfl, b1'⟩; have B1 := hid b1'; have hr1 := lxbelow_cell b1' HHr.out; have TK := hid (HTk.out _ (HH.out.below b1')); have CC := hid (chg_below (rb := rb) b1'); have RC := hid (HH.out.below b1'); have x3' := lxbelow_cell b1' HCX.out.2.2.2; have OO := hid (HOp.out _ () (HH.out.below b1')); clear b1')
                | (go_at_call 178; go_loud (with_reducible refine OO.out.mono ?_); rintro e3 w3 ⟨c3, b3, rfl, f3⟩)
                | fail)
      exact ⟨rfl, frl (chg_trans CC.out c3), b3, rfl, f3⟩
    | ok y =>
      obtain ⟨es, l2⟩ := y
      replace HOp := hid (fun w' (l' : Ts) (r : RS w' rb p c xs l d) => HOp2.out w' r)
      unfold RdE QL at HOp
      rw [hop] at HOp
      simp only [] at HOp
      replace HOp := hid (fun w' (l' : Unit) (r : RS w' rb p c xs l d) => HOp.out w' [] r)
      clear HOp2
      go_enter Tryz.func177, Tryz.ntmps177
      go_wp2_with (first
                | (go_at_call 148; go_loud (with_reducible refine (HCt.out _).mono ?_); rintro e1 w1 ⟨rfl, b1'⟩; have B1 := hid b1'; have hr1 := lxbelow_cell b1' HHr.out; have TK := hid (HTk.out _ (HH.out.below b1')); have CC := hid (chg_below (rb := rb) b1'); have RC := hid (HH.out.below b1'); have x3' := lxbelow_cell b1' HCX.out.2.2.2; have OO := hid (HOp.out _ () (HH.out.below b1')); clear b1')
                | (go_at_call 178; go_loud (with_reducible refine OO.out.mono ?_); rintro e3 w3 ⟨c3, v3, rfl, ⟨els, rfl, O3, E3⟩, r3⟩; have C3 := hid c3; have HO3 := hid O3; have HE3 := hid E3; have HR3 := hid r3; have bx := HB.out.chg (chg_trans CC.out c3) (show ¬ (eb = rb) by omega); have HBX := hid bx; have y9 := bx.xc.2.2.2.2.2.2.2.2.2; simp only [Nat.zero_add] at y9; have yf := bx.frozen 9; obtain ⟨pv, cv, hv⟩ := O3.form; subst hv; have hCs := CC.out.size; have hcs := c3.size; clear c3 O3 E3 r3 bx)
                | fail)
      have K : Chg (· = eb) w3 (w3.setCell ⟨eb, 9, none⟩ (.slice pv els.length cv)) := Chg.setCell (F := (· = eb)) (p := ⟨eb, 9, none⟩) (Chg.refl _ _) (Or.inl rfl) _
      obtain ⟨p', c', hv', hcp', n', hE'⟩ := HO3.out.eat (F := fun j => N ≤ j ∧ j ≠ eb) (fun j q => ⟨by omega, by omega⟩) (fun x hx => by obtain ⟨k, hk, hq⟩ := HE3.out x hx; exact ⟨k, hk.mono (fun j _ q => ⟨by omega, by omega⟩), hq⟩) o.kind o.op
      cases hv'
      have hBX : BX (w3.setCell ⟨eb, 9, none⟩ (.slice pv els.length cv)) eb (mkE o.kind o.op (els.map (·.1))) pv cv := by
        have := HBX.out.args (es := els.map (·.1)) (p := pv) (c := cv)
        rw [List.length_map] at this
        exact this
      exact end0 rfl rfl ⟨frm (frl (chg_trans CC.out C3.out)) (K.mono (fun j _ q => Or.inr q)), _, rfl, ⟨rfl, pv, cv, hBX, n', hE'.chg K (fun j q r => q.2 r), (by show (els.map (·.1)).length ≤ _; rw [List.length_map]; exact hcp')⟩, H0.out.fresh HR3.out hb0 K⟩
end Go.Proofs.YtblkhlhhlalbkaaGreatDoor
namespace Go.Proofs.YtblkhlhhlalbkaaGreatDoor
open Go.RowKit Go.Lib Go.Sort
set_option linter.unusedVariables false
set_option maxRecDepth 20000

theorem fr_new {rb eb : Nat} {a x y : World} (h : Chg (· = rb) a x) (hb : a.heap.size ≤ eb) (k : Chg (fun k => k = rb ∨ k = eb) x y) : Chg (· = rb) a y :=
  h.trans k (fun j hj q => by rcases q with q | q; exact q; omega)
theorem brkP_some {α : Type} (g : Ts → Rd Ex) (h : (Ts → Rd Ex) → Ts → Rd α) (l : Ts) : brkP (some g) h l = brkE (h g l.tail) := by
  show ((match h g l.tail with | Except.error x => Except.error x | Except.ok y => match mustP 5 [41] y.2 with | Except.error x => Except.error x | Except.ok r => Except.ok (y.1, r)) : Rd α) = _
  unfold brkE
  generalize h g l.tail = r
  cases r <;> rfl
set_option maxHeartbeats 16000000 in
theorem called_any {w : World} {rb : Nat} {p : Option Addr} {c : Nat} {xs l : Ts} {d : Nat} {prev : Option (Ts → Rd Ex)} (o : Cal) (ho : o ∈ cals) (h : RS w rb p c xs l d) (hl : l ≠ []) (hprev : ∀ g, prev = some g → ∃ d', d = d' + 1 ∧ LineOk rb p c xs d' 142 #[.pointer (some ⟨rb + 25, 0, none⟩), .pointer (some ⟨rb + 23, 0, none⟩), .pointer (some ⟨rb + 24, 0, none⟩)] g) (hnone : prev = none → d = 0) :
    Calls Tryz.prog 140 #[.pointer (some ⟨rb, 0, none⟩), .agg #[.int .i64 o.kind, .int .i64 o.op, .string ⟨o.name.toArray⟩, .int .i64 (o.cnt : Int)]] w (RdE (QX w.heap.size) rb p c xs d (match brkP prev (fun g => inP g o) l with | .error x => .error x | .ok y => .ok (mkE o.kind o.op y.1, y.2)) w) := by
  have HH := hid h
  have hlt := h.lt
  obtain ⟨hs3, e1, e2, e3⟩ := alc3 w (.cells #[.pointer (some ⟨rb, 0, none⟩)] 109) (.cells #[.int .i64 o.kind, .int .i64 o.op, .string ⟨o.name.toArray⟩, .int .i64 (o.cnt : Int)] 161) (.cells #[.int .i64 0, .int .i64 0, .int .i64 0, .int .i64 0, .string ⟨#[]⟩, .string ⟨#[]⟩, .string ⟨#[]⟩, .int .i64 0, .int .i64 0, .slice none 0 0] 26)
  have A4 := albl (((w.alloc (.cells #[.pointer (some ⟨rb, 0, none⟩)] 109)).alloc (.cells #[.int .i64 o.kind, .int .i64 o.op, .string ⟨o.name.toArray⟩, .int .i64 (o.cnt : Int)] 161)).alloc (.cells #[.int .i64 0, .int .i64 0, .int .i64 0, .int .i64 0, .string ⟨#[]⟩, .string ⟨#[]⟩, .string ⟨#[]⟩, .int .i64 0, .int .i64 0, .slice none 0 0] 26)) (.cells #[.int .i64 o.kind, .int .i64 o.op, .int .i64 0, .int .i64 0, .string ⟨#[]⟩, .string ⟨#[]⟩, .string ⟨#[]⟩, .int .i64 0, .int .i64 0, .slice none 0 0] 26)
  have e4 := heap_alloc_new (((w.alloc (.cells #[.pointer (some ⟨rb, 0, none⟩)] 109)).alloc (.cells #[.int .i64 o.kind, .int .i64 o.op, .string ⟨o.name.toArray⟩, .int .i64 (o.cnt : Int)] 161)).alloc (.cells #[.int .i64 0, .int .i64 0, .int .i64 0, .int .i64 0, .string ⟨#[]⟩, .string ⟨#[]⟩, .string ⟨#[]⟩, .int .i64 0, .int .i64 0, .slice none 0 0] 26)) (.cells #[.int .i64 o.kind, .int .i64 o.op, .int .i64 0, .int .i64 0, .string ⟨#[]⟩, .string ⟨#[]⟩, .string ⟨#[]⟩, .int .i64 0, .int .i64 0, .slice none 0 0] 26)
  rw [hs3] at e4 A4
  have B4 : Below w.heap.size w ((((w.alloc (.cells #[.pointer (some ⟨rb, 0, none⟩)] 109)).alloc (.cells #[.int .i64 o.kind, .int .i64 o.op, .string ⟨o.name.toArray⟩, .int .i64 (o.cnt : Int)] 161)).alloc (.cells #[.int .i64 0, .int .i64 0, .int .i64 0, .int .i64 0, .string ⟨#[]⟩, .string ⟨#[]⟩, .string ⟨#[]⟩, .int .i64 0, .int .i64 0, .slice none 0 0] 26)).alloc (.cells #[.int .i64 o.kind, .int .i64 o.op, .int .i64 0, .int .i64 0, .string ⟨#[]⟩, .string ⟨#[]⟩, .string ⟨#[]⟩, .int .i64 0, .int .i64 0, .slice none 0 0] 26)) := (((Below.refl _ _).alloc (Nat.le_refl _) _).alloc (by simp) _).alloc (by simp; omega) _ |>.trans (A4.mono (by omega))
  have hs4 : ((((w.alloc (.cells #[.pointer (some ⟨rb, 0, none⟩)] 109)).alloc (.cells #[.int .i64 o.kind, .int .i64 o.op, .string ⟨o.name.toArray⟩, .int .i64 (o.cnt : Int)] 161)).alloc (.cells #[.int .i64 0, .int .i64 0, .int .i64 0, .int .i64 0, .string ⟨#[]⟩, .string ⟨#[]⟩, .string ⟨#[]⟩, .int .i64 0, .int .i64 0, .slice none 0 0] 26)).alloc (.cells #[.int .i64 o.kind, .int .i64 o.op, .int .i64 0, .int .i64 0, .string ⟨#[]⟩, .string ⟨#[]⟩, .string ⟨#[]⟩, .int .i64 0, .int .i64 0, .slice none 0 0] 26)).heap.size = w.heap.size + 4 := by rw [show w.heap.size + 4 = w.heap.size + 3 + 1 from rfl, ← hs3]; simp
  have f1 := (A4.block _ (by omega)).trans e1
  have f2 := (A4.block _ (by omega)).trans e2
  have f3 := (A4.block _ (by omega)).trans e3
  have HR4 := hid (h.below B4)
  have HB4 := hid B4
  have HX : Hid (BX ((((w.alloc (.cells #[.pointer (some ⟨rb, 0, none⟩)] 109)).alloc (.cells #[.int .i64 o.kind, .int .i64 o.op, .string ⟨o.name.toArray⟩, .int .i64 (o.cnt : Int)] 161)).alloc (.cells #[.int .i64 0, .int .i64 0, .int .i64 0, .int .i64 0, .string ⟨#[]⟩, .string ⟨#[]⟩, .string ⟨#[]⟩, .int .i64 0, .int .i64 0, .slice none 0 0] 26)).alloc (.cells #[.int .i64 o.kind, .int .i64 o.op, .int .i64 0, .int .i64 0, .string ⟨#[]⟩, .string ⟨#[]⟩, .string ⟨#[]⟩, .int .i64 0, .int .i64 0, .slice none 0 0] 26)) (w.heap.size + 3) (mkE o.kind o.op []) none 0) := e4
  have HRes : Hid (ResX ((((w.alloc (.cells #[.pointer (some ⟨rb, 0, none⟩)] 109)).alloc (.cells #[.int .i64 o.kind, .int .i64 o.op, .string ⟨o.name.toArray⟩, .int .i64 (o.cnt : Int)] 161)).alloc (.cells #[.int .i64 0, .int .i64 0, .int .i64 0, .int .i64 0, .string ⟨#[]⟩, .string ⟨#[]⟩, .string ⟨#[]⟩, .int .i64 0, .int .i64 0, .slice none 0 0] 26)).alloc (.cells #[.int .i64 o.kind, .int .i64 o.op, .int .i64 0, .int .i64 0, .string ⟨#[]⟩, .string ⟨#[]⟩, .string ⟨#[]⟩, .int .i64 0, .int .i64 0, .slice none 0 0] 26)) (w.heap.size + 2)) := f3
  have HCX : Hid (CX ((((w.alloc (.cells #[.pointer (some ⟨rb, 0, none⟩)] 109)).alloc (.cells #[.int .i64 o.kind, .int .i64 o.op, .string ⟨o.name.toArray⟩, .int .i64 (o.cnt : Int)] 161)).alloc (.cells #[.int .i64 0, .int .i64 0, .int .i64 0, .int .i64 0, .string ⟨#[]⟩, .string ⟨#[]⟩, .string ⟨#[]⟩, .int .i64 0, .int .i64 0, .slice none 0 0] 26)).alloc (.cells #[.int .i64 o.kind, .int .i64 o.op, .int .i64 0, .int .i64 0, .string ⟨#[]⟩, .string ⟨#[]⟩, .string ⟨#[]⟩, .int .i64 0, .int .i64 0, .slice none 0 0] 26)) (w.heap.size + 1) o.kind o.op ⟨o.name.toArray⟩ (o.cnt : Int)) := by
    refine ⟨?_, ?_, ?_, ?_⟩ <;> (rw [Lib.cell_of_heap f2]; rfl)
  have x0 : ((((w.alloc (.cells #[.pointer (some ⟨rb, 0, none⟩)] 109)).alloc (.cells #[.int .i64 o.kind, .int .i64 o.op, .string ⟨o.name.toArray⟩, .int .i64 (o.cnt : Int)] 161)).alloc (.cells #[.int .i64 0, .int .i64 0, .int .i64 0, .int .i64 0, .string ⟨#[]⟩, .string ⟨#[]⟩, .string ⟨#[]⟩, .int .i64 0, .int .i64 0, .slice none 0 0] 26)).alloc (.cells #[.int .i64 o.kind, .int .i64 o.op, .int .i64 0, .int .i64 0, .string ⟨#[]⟩, .string ⟨#[]⟩, .string ⟨#[]⟩, .int .i64 0, .int .i64 0, .slice none 0 0] 26)).cell? ⟨w.heap.size, 0, none⟩ = some (.pointer (some ⟨rb, 0, none⟩)) := by rw [Lib.cell_of_heap f1]; rfl
  have HX0 := hid x0
  clear e1 e2 e3 e4 f1 f2 f3 A4 B4 h hs3
  cases hpv : prev with
  | none =>
    obtain rfl := hnone hpv
    have HBr := hid (fun v => brackets_no v HR4.out)
    show Calls _ _ _ _ (RdE _ _ _ _ _ _ (.error (l, 21)) _)
    clear hpv hnone hprev
    go_enter Tryz.func140, Tryz.ntmps140
    go_upto_region 2 with fail
    generalize hW4 : World.alloc _ (.cells #[.int .i64 o.kind, .int .i64 o.op, .int .i64 0, .int .i64 0, .string ⟨#[]⟩, .string ⟨#[]⟩, .string ⟨#[]⟩, .int .i64 0, .int .i64 0, .slice none 0 0] 26) = W4 at *
    clear hW4
    go_wp2_with (first
      | (go_at_call 135; go_loud (with_reducible refine (HBr.out _).mono ?_); rintro e5 w5 ⟨b5, bb, rfl, f5⟩)
      | fail)
    exact ⟨rfl, chg_trans (chg_below HB4.out) (chg_below b5), bb, rfl, f5⟩
  | some g =>
    obtain ⟨d', rfl, hG⟩ := hprev g hpv
    rw [brkP_some]
    have HBr := hid (brackets_yes (eb := w.heap.size + 3) (cs := #[.pointer (some ⟨w.heap.size + 1, 0, none⟩), .pointer (some ⟨w.heap.size, 0, none⟩), .pointer (some ⟨w.heap.size + 3, 0, none⟩)]) (inP g o l.tail) (fun w' a => QB (w.heap.size + 3) (w.heap.size + 4) w' (mkE o.kind o.op a)) HR4.out hl Tryz.call177
      (fun w' C r => called1_any o ho r HH.out (by omega) (by omega) (by omega) (C.cell HX0.out (show ¬ (w.heap.size = rb) by omega)) (HCX.out.chg C (show ¬ (w.heap.size + 1 = rb) by omega)) (HX.out.chg C (show ¬ (w.heap.size + 3 = rb) by omega)) (by have := C.size; omega) hG)
      (fun a w1 w2 C q => q.chg C (by omega) (by omega)))
    clear hpv hnone hprev
    unfold RdG QB at HBr
    obtain ⟨R, HRr⟩ : ∃ R, Hid (brkE (inP g o l.tail) = R) := ⟨_, rfl⟩
    rw [HRr.out] at HBr ⊢
    clear HRr hG
    cases R with
    | error x =>
      simp only [] at HBr ⊢
      go_enter Tryz.func140, Tryz.ntmps140
      go_upto_region 2 with fail
      generalize hW4 : World.alloc _ (.cells #[.int .i64 o.kind, .int .i64 o.op, .int .i64 0, .int .i64 0, .string ⟨#[]⟩, .string ⟨#[]⟩, .string ⟨#[]⟩, .int .i64 0, .int .i64 0, .slice none 0 0] 26) = W4 at *
      clear hW4
      go_wp2_with (first
        | (go_at_call 135; go_loud (with_reducible refine HBr.out.mono ?_); rintro e5 w5 ⟨c5, b5, rfl, f5⟩)
        | fail)
      exact ⟨rfl, fr_new (chg_below HB4.out) (by omega) c5, b5, rfl, f5⟩
    | ok y =>
      obtain ⟨es, l2⟩ := y
      simp only [] at HBr ⊢
      go_enter Tryz.func140, Tryz.ntmps140
      go_upto_region 2 with fail
      generalize hW4 : World.alloc _ (.cells #[.int .i64 o.kind, .int .i64 o.op, .int .i64 0, .int .i64 0, .string ⟨#[]⟩, .string ⟨#[]⟩, .string ⟨#[]⟩, .int .i64 0, .int .i64 0, .slice none 0 0] 26) = W4 at *
      clear hW4
      go_wp2_with (first
        | (go_at_call 135; go_loud (with_reducible refine HBr.out.mono ?_); rintro e5 w5 ⟨c5, v5, rfl, ⟨rfl, pe, ce, hbx, k5, E5, hcp5⟩, r5⟩; have C5 := hid c5; have HE5 := hid E5; have HR5 := hid r5; obtain ⟨y0, y1, y2, y3, y4, y5, y6, y7, y8, y9⟩ := hbx.xc; simp only [Nat.zero_add] at y0 y1 y2 y3 y4 y5 y6 y7 y8 y9; have res5 := HRes.out.chg c5 (show ¬ (w.heap.size + 2 = rb ∨ w.heap.size + 2 = w.heap.size + 3) by omega); obtain ⟨z0, z1, z2, z3, z4, z5, z6, z7, z8, z9⟩ := res5.cells; have zf := res5.frozen; clear c5 E5 r5 hbx res5)
        | fail)
      refine bodyPost_ret (by simp [results, Tryz.results140, go_sem, z0, z1, z2, z3, z4, z5, z6, z7, z8, z9]; try rfl) rfl ?_
      exact finX (e := mkE o.kind o.op es) HH.out (fr_new (chg_below HB4.out) (by omega) C5.out) (by omega) HR5.out (HE5.out.mono (fun j _ q => ⟨by omega, by omega⟩)) hcp5
end Go.Proofs.YtblkhlhhlalbkaaGreatDoor
