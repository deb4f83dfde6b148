/- What column and call of the reader of package expr do. Conditions: none. -/
import Derived.Test.YtfhhigablibeoaaGreatDoorXI
import Derived.Deep.CutRange
import Derived.Deep.RegionHeld3
namespace Go.Proofs.YtfhhigablibeoaaGreatDoor
open Go.RowKit Go.Lib Go.Sort
set_option linter.unusedVariables false
set_option maxRecDepth 20000
set_option linter.unusedSimpArgs false

set_option maxHeartbeats 8000000 in
theorem column_any {w : World} {rb : Nat} {p : Option Addr} {c : Nat} {xs l : Ts} {d : Nat} (h : RS w rb p c xs l d) :
    Calls Tryz.prog 69 #[.pointer (some ⟨rb, 0, none⟩)] w (RdE (QX w.heap.size) rb p c xs d (colP l) w) := by
  have HH := hid h
  have hlt := h.lt
  have HB0 := hid (albl w (.cells #[.int .i64 0, .int .i64 0, .int .i64 0, .int .i64 0, .string ⟨#[]⟩, .string ⟨#[]⟩, .string ⟨#[]⟩, .int .i64 0, .int .i64 0, .slice none 0 0] 32))
  have H0 := hid (h.below HB0.out)
  have HRes := hid (show ResX (w.alloc (.cells #[.int .i64 0, .int .i64 0, .int .i64 0, .int .i64 0, .string ⟨#[]⟩, .string ⟨#[]⟩, .string ⟨#[]⟩, .int .i64 0, .int .i64 0, .slice none 0 0] 32)) w.heap.size from heap_alloc_new w _)
  have N1 := hid (rname_any H0.out)
  have HNN := hid (fun w' l' (r : RS w' rb p c xs l' d) => rname_any r)
  unfold RdE at N1 HNN
  unfold colP
  clear h
  cases hn : nameP l with
  | error x =>
    rw [hn] at N1
    simp only [] at N1 ⊢
    go_enter Tryz.func69, Tryz.ntmps69
    go_upto_region 1 with fail
    generalize hWW : w.alloc _ = W at *
    clear hWW
    go_wp2_with (first
      | (go_at_call 99; go_loud (with_reducible refine N1.out.mono ?_); rintro e2 w2 ⟨c2, b2, rfl, f2⟩)
      | fail)
    exact ⟨rfl, chg_trans (chg_below HB0.out) c2, b2, rfl, f2⟩
  | ok y =>
    obtain ⟨a, l1⟩ := y
    rw [hn] at N1
    simp only [] at N1 ⊢
    have T := hid (fun w' (r : RS w' rb p c xs l1 d) => take_any 5 [46] r (by decide))
    cases hs : stn 5 [46] l1 with
    | false =>
      rw [hs] at T
      simp only [Bool.false_eq_true, if_false] at T ⊢
      go_enter Tryz.func69, Tryz.ntmps69
      go_upto_region 1 with fail
      generalize hWW : w.alloc _ = W at *
      clear hWW
      go_wp2_with (first
        | (go_at_call 99; go_loud (with_reducible refine N1.out.mono ?_); rintro e2 w2 ⟨c2, v2, rfl, rfl, r2⟩; have C2 := hid c2; have TT := hid (T.out _ r2); clear c2 r2)
        | (go_at_call 73; go_loud (with_reducible refine TT.out.mono ?_); rintro e3 w3 ⟨rfl, c3, r3⟩; have C3 := hid (chg_trans C2.out c3); have R3 := hid r3; have res3 := HRes.out.chg (chg_trans C2.out c3) (show ¬ (w.heap.size = rb) by omega); obtain ⟨z0, z1, z2, z3, z4, z5, z6, z7, z8, z9⟩ := res3.cells; have zf := res3.frozen; clear c3 r3 res3)
        | fail)
      refine bodyPost_ret (by simp [results, Tryz.results69, go_sem, z0, z1, z2, z3, z4, z5, z6, z7, z8, z9]; try rfl) rfl ?_
      exact finX (e := colE [] a) (k := 0) HH.out (chg_trans (chg_below HB0.out) C3.out) (Nat.le_refl _) R3.out rfl
    | true =>
      rw [hs] at T
      simp only [if_true] at T ⊢
      have N2 := hid (fun w' (r : RS w' rb p c xs l1.tail d) => HNN.out w' _ r)
      cases hn2 : nameP l1.tail with
      | error x =>
        rw [hn2] at N2
        simp only [] at N2 ⊢
        go_enter Tryz.func69, Tryz.ntmps69
        go_upto_region 1 with fail
        generalize hWW : w.alloc _ = W at *
        clear hWW
        go_upto_region 4 with (first
          | (go_at_call 99; go_loud (with_reducible refine N1.out.mono ?_); rintro e2 w2 ⟨c2, v2, rfl, rfl, r2⟩; have C2 := hid c2; have TT := hid (T.out _ r2); clear c2 r2)
          | (go_at_call 73; go_loud (with_reducible refine TT.out.mono ?_); rintro e3 w3 ⟨rfl, c3, r3⟩; have C3 := hid (chg_trans C2.out c3); have N3 := hid (N2.out _ r3); clear c3 r3)
          | fail)
        go_wp2_with (first
          | (go_at_call 99; go_loud (with_reducible refine N3.out.mono ?_); rintro e4 w4 ⟨c4, b4, rfl, f4⟩)
          | fail)
        exact ⟨rfl, chg_trans (chg_below HB0.out) (chg_trans C3.out c4), b4, rfl, f4⟩
      | ok z =>
        obtain ⟨b, l2⟩ := z
        rw [hn2] at N2
        simp only [] at N2 ⊢
        go_enter Tryz.func69, Tryz.ntmps69
        go_upto_region 1 with fail
        generalize hWW : w.alloc _ = W at *
        clear hWW
        go_upto_region 4 with (first
          | (go_at_call 99; go_loud (with_reducible refine N1.out.mono ?_); rintro e2 w2 ⟨c2, v2, rfl, rfl, r2⟩; have C2 := hid c2; have TT := hid (T.out _ r2); clear c2 r2)
          | (go_at_call 73; go_loud (with_reducible refine TT.out.mono ?_); rintro e3 w3 ⟨rfl, c3, r3⟩; have C3 := hid (chg_trans C2.out c3); have N3 := hid (N2.out _ r3); clear c3 r3)
          | fail)
        go_wp2_with (first
          | (go_at_call 99; go_loud (with_reducible refine N3.out.mono ?_); rintro e4 w4 ⟨c4, v4, rfl, rfl, r4⟩; have C4 := hid (chg_trans C3.out c4); have R4 := hid r4; have res4 := HRes.out.chg (chg_trans C3.out c4) (show ¬ (w.heap.size = rb) by omega); obtain ⟨z0, z1, z2, z3, z4, z5, z6, z7, z8, z9⟩ := res4.cells; have zf := res4.frozen; clear c4 r4 res4)
          | fail)
        refine bodyPost_ret (by simp [results, Tryz.results69, go_sem, z0, z1, z2, z3, z4, z5, z6, z7, z8, z9]; try rfl) rfl ?_
        exact finX (e := colE a b) (k := 0) HH.out (chg_trans (chg_below HB0.out) C4.out) (Nat.le_refl _) R4.out rfl
theorem tokV_form (l : Ts) (k : Nat) : ∃ a s i n, tokV l k = .agg #[.int .i64 a, .string ⟨List.toArray s⟩, .int .i64 i, .int .i64 n] ∧ ∀ x, l[k]? = some x → a = x.1.k ∧ s = x.1.s := by
  unfold tokV
  cases h : l[k]? with
  | none => exact ⟨0, [], 0, 0, rfl, fun x q => by cases q⟩
  | some x => exact ⟨x.1.k, x.1.s, x.2, x.1.n, rfl, fun y q => by cases q; exact ⟨rfl, rfl⟩⟩
theorem calT_eq (l : Ts) (a b : Int) (s t : List UInt8) (i j n m : Int) (h0 : tokV l 0 = .agg #[.int .i64 a, .string ⟨s.toArray⟩, .int .i64 i, .int .i64 n]) (h1 : tokV l 1 = .agg #[.int .i64 b, .string ⟨t.toArray⟩, .int .i64 j, .int .i64 m]) : calT l = if a = 1 ∧ b = 5 ∧ t = [40] then calN s else none := by
  match l, h0, h1 with
  | [], h0, h1 =>
    have : a = 0 := by have := h0; simp [tokV] at this; exact this.1.symm
    subst this
    rfl
  | [x], h0, h1 =>
    have : b = 0 := by have := h1; simp [tokV] at this; exact this.1.symm
    subst this
    simp [calT]
  | x :: y :: r, h0, h1 =>
    have e0 : x.1.k = a ∧ x.1.s = s := by
      have := h0; simp [tokV] at this; exact ⟨this.1, this.2.1⟩
    have e1 : y.1.k = b ∧ y.1.s = t := by
      have := h1; simp [tokV] at this; exact ⟨this.1, this.2.1⟩
    obtain ⟨rfl, rfl⟩ := e0
    obtain ⟨rfl, rfl⟩ := e1
    rfl
/-- A variable that holds a token. -/
def TkB (w : World) (b0 : Nat) (a : Int) (s : List UInt8) (i n : Int) : Prop := w.cell? ⟨b0, 0, none⟩ = some (.int .i64 a) ∧ w.cell? ⟨b0, 1, none⟩ = some (.string ⟨s.toArray⟩) ∧ w.cell? ⟨b0, 2, none⟩ = some (.int .i64 i) ∧ w.cell? ⟨b0, 3, none⟩ = some (.int .i64 n)
theorem blTr {W Y Z : World} (b : Below Y.heap.size Y Z) (h : Below W.heap.size W Y) : Below W.heap.size W Z := h.trans (b.mono h.size)
theorem blAl {W Y : World} (h : Below W.heap.size W Y) (o : Obj) : Below W.heap.size W (Y.alloc o) := h.alloc h.size o
theorem blDr {W Y : World} (h : Below W.heap.size W Y) : Below W.heap.size W Y.drew := h.drew
theorem blRf (W : World) : Below W.heap.size W W := Below.refl _ _
theorem tk_lt {w : World} {b : Nat} {o : Obj} (h : w.heap[b]? = some o) : b < w.heap.size := (Array.getElem?_eq_some_iff.1 h).1
theorem tk_fr {w : World} {b : Nat} {cs : Array Value} {t : TypeId} (h : w.heap[b]? = some (.cells cs t (0, 0))) : w.frozen? ⟨b, 0, none⟩ = false ∧ w.frozen? ⟨b, 1, none⟩ = false ∧ w.frozen? ⟨b, 2, none⟩ = false ∧ w.frozen? ⟨b, 3, none⟩ = false :=
  ⟨Lib.frozen_of_heap h 0, Lib.frozen_of_heap h 1, Lib.frozen_of_heap h 2, Lib.frozen_of_heap h 3⟩
theorem tk_cells {w : World} {b : Nat} (h : w.heap[b]? = some (.cells #[.int .i64 0, .string ⟨#[]⟩, .int .i64 0, .int .i64 0] 56 (0, 0))) : w.cell? ⟨b, 0, none⟩ = some (.int .i64 0) ∧ w.cell? ⟨b, 1, none⟩ = some (.string ⟨#[]⟩) ∧ w.cell? ⟨b, 2, none⟩ = some (.int .i64 0) ∧ w.cell? ⟨b, 3, none⟩ = some (.int .i64 0) := by
  refine ⟨?_, ?_, ?_, ?_⟩ <;> (rw [Lib.cell_of_heap h]; rfl)
theorem tk_put {W Y : World} {bA bB : Nat} {a i n b j m : Int} {s t : List UInt8} (hA : Y.heap[bA]? = some (.cells #[.int .i64 0, .string ⟨#[]⟩, .int .i64 0, .int .i64 0] 56 (0, 0))) (hB : Y.heap[bB]? = some (.cells #[.int .i64 0, .string ⟨#[]⟩, .int .i64 0, .int .i64 0] 56 (0, 0))) (hne : bA ≠ bB) (lA : W.heap.size ≤ bA) (lB : W.heap.size ≤ bB) (CC : Below W.heap.size W Y) :
    TkB ((((((((Y.setCell ⟨bA, 0, none⟩ (.int .i64 a)).setCell ⟨bA, 1, none⟩ (.string ⟨s.toArray⟩)).setCell ⟨bA, 2, none⟩ (.int .i64 i)).setCell ⟨bA, 3, none⟩ (.int .i64 n)).setCell ⟨bB, 0, none⟩ (.int .i64 b)).setCell ⟨bB, 1, none⟩ (.string ⟨t.toArray⟩)).setCell ⟨bB, 2, none⟩ (.int .i64 j)).setCell ⟨bB, 3, none⟩ (.int .i64 m)) bA a s i n ∧
    TkB ((((((((Y.setCell ⟨bA, 0, none⟩ (.int .i64 a)).setCell ⟨bA, 1, none⟩ (.string ⟨s.toArray⟩)).setCell ⟨bA, 2, none⟩ (.int .i64 i)).setCell ⟨bA, 3, none⟩ (.int .i64 n)).setCell ⟨bB, 0, none⟩ (.int .i64 b)).setCell ⟨bB, 1, none⟩ (.string ⟨t.toArray⟩)).setCell ⟨bB, 2, none⟩ (.int .i64 j)).setCell ⟨bB, 3, none⟩ (.int .i64 m)) bB b t j m ∧
    Below W.heap.size W ((((((((Y.setCell ⟨bA, 0, none⟩ (.int .i64 a)).setCell ⟨bA, 1, none⟩ (.string ⟨s.toArray⟩)).setCell ⟨bA, 2, none⟩ (.int .i64 i)).setCell ⟨bA, 3, none⟩ (.int .i64 n)).setCell ⟨bB, 0, none⟩ (.int .i64 b)).setCell ⟨bB, 1, none⟩ (.string ⟨t.toArray⟩)).setCell ⟨bB, 2, none⟩ (.int .i64 j)).setCell ⟨bB, 3, none⟩ (.int .i64 m)) := by
  obtain ⟨a0, a1, a2, a3⟩ := tk_cells hA
  obtain ⟨b0, b1, b2, b3⟩ := tk_cells hB
  have hne' : bB ≠ bA := Ne.symm hne
  refine ⟨⟨?_, ?_, ?_, ?_⟩, ⟨?_, ?_, ?_, ?_⟩, ?_⟩
  · simp [go_sem, a0, hne, hne']
  · simp [go_sem, a1, hne, hne']
  · simp [go_sem, a2, hne, hne']
  · simp [go_sem, a3, hne, hne']
  · simp [go_sem, b0, hne, hne']
  · simp [go_sem, b1, hne, hne']
  · simp [go_sem, b2, hne, hne']
  · simp [go_sem, b3, hne, hne']
  · exact (((((((CC.setCell (p := ⟨bA, 0, none⟩) lA _).setCell (p := ⟨bA, 1, none⟩) lA _).setCell (p := ⟨bA, 2, none⟩) lA _).setCell (p := ⟨bA, 3, none⟩) lA _).setCell (p := ⟨bB, 0, none⟩) lB _).setCell (p := ⟨bB, 1, none⟩) lB _).setCell (p := ⟨bB, 2, none⟩) lB _).setCell (p := ⟨bB, 3, none⟩) lB _
/-- An operation that yields its value wherever the condition holds is taken first; its slot is named. -/
theorem wpAnyH_takeT {P : Program} {md : Region.Mode} {ops : Array Oper} {Q : Exit → Act → World → Prop} {S : World → Prop} {i t : Nat} {oi : Oper} {v : Value} {fuel : Nat} {listed : Array Bool} {a : Act} {w : World} (hi : ops[i]? = some oi) (hd : oi.dst = some t)
    (hs : Region.noSelect ops = true) (hf : Region.free md ops listed i = true) (hr : (Region.ready md ops listed).contains i = true)
    (hQ : ∀ c a w, Q (.panic c) (a.put (some t) v) w → Q (.panic c) a w) (hy : YieldsIf P ops S oi v a) (hS : S w)
    (h : wpAnyH P md ops Q S fuel (listed.setIfInBounds i true) (a.put (some t) v) w) : wpAnyH P md ops Q S (fuel + 1) listed a w :=
  wpAnyH_take hi hs hf hr (by rw [hd]; exact hQ) hy hS (by rw [hd]; exact h)
set_option maxHeartbeats 8000000 in
theorem call_any {w : World} {rb : Nat} {p : Option Addr} {c : Nat} {xs l : Ts} {d : Nat} (h : RS w rb p c xs l d) :
    Calls Tryz.prog 67 #[.pointer (some ⟨rb, 0, none⟩)] w fun e w' => e = .returned (.tuple #[calO (calT l), .bool (calT l).isSome]) ∧ Below w.heap.size w w' := by
  have HB0 := hid (albl w (.cells #[.int .i64 0, .int .i64 0, .string ⟨#[]⟩, .int .i64 0] 120))
  have H0 := hid (h.below HB0.out)
  have HRes := hid (show ResC (w.alloc (.cells #[.int .i64 0, .int .i64 0, .string ⟨#[]⟩, .int .i64 0] 120)) w.heap.size from heap_alloc_new w _)
  obtain ⟨a, s, i, n, e0, _⟩ := tokV_form l 0
  obtain ⟨b, t, j, m, e1, _⟩ := tokV_form l 1
  have T0 := hid (fun w' (q : Below (w.alloc (.cells #[.int .i64 0, .int .i64 0, .string ⟨#[]⟩, .int .i64 0] 120)).heap.size (w.alloc (.cells #[.int .i64 0, .int .i64 0, .string ⟨#[]⟩, .int .i64 0] 120)) w') => token0 (H0.out.below q))
  have T1 := hid (fun w' (q : Below (w.alloc (.cells #[.int .i64 0, .int .i64 0, .string ⟨#[]⟩, .int .i64 0] 120)).heap.size (w.alloc (.cells #[.int .i64 0, .int .i64 0, .string ⟨#[]⟩, .int .i64 0] 120)) w') => token1 (H0.out.below q))
  rw [e0] at T0
  rw [e1] at T1
  rw [calT_eq l a b s t i j n m e0 e1]
  have HN := hid (fun w' (q : Gl w') => callNamed_any s q)
  have hsz0 : (w.alloc (.cells #[.int .i64 0, .int .i64 0, .string ⟨#[]⟩, .int .i64 0] 120)).heap.size = w.heap.size + 1 := by simp
  clear h e0 e1
  obtain ⟨R, HR⟩ : ∃ R, Hid ((if a = 1 ∧ b = 5 ∧ t = [40] then calN s else none) = R) := ⟨_, rfl⟩
  rw [HR.out]
  obtain ⟨k, o, nm, cn, er⟩ : ∃ k o nm cn, calO R = .agg #[.int .i64 k, .int .i64 o, .string nm, .int .i64 cn] := by
    cases R with
    | none => exact ⟨0, 0, ⟨#[]⟩, 0, rfl⟩
    | some r => exact ⟨_, _, _, _, rfl⟩
  obtain ⟨sm, hsm⟩ : ∃ sm, R.isSome = sm := ⟨_, rfl⟩
  rw [er, hsm]
  have HER := hid er
  have HSM := hid hsm
  clear er hsm
  go_enter Tryz.func67, Tryz.ntmps67
  go_upto_region 1 with fail
  generalize hWW : w.alloc _ = W at *
  clear hWW
  go_cut [4, 5] from 6 to 13 (fun s4 s5 wx => ∃ b4 b5 : Nat, s4 = .pointer (some ⟨b4, 0, none⟩) ∧ s5 = .pointer (some ⟨b5, 0, none⟩) ∧ TkB wx b4 a s i n ∧ TkB wx b5 b t j m ∧ Below W.heap.size W wx)
  case first =>
    refine wp_region_held_drew (S := fun _ => True) (by kernel_rfl) trivial (fun hHeld => ?_)
    have CC : Below W.heap.size W W.drew := blDr (blRf W)
    generalize hV : W.drew = Y at *
    clear hV hHeld
    refine wpAnyH_takeT (i := 0) (t := 6) (v := ?_) rfl rfl (by kernel_rfl) (by kernel_rfl) (by kernel_rfl) (fun _ _ _ h => h) (Or.inl ⟨by rfl, ?_⟩) trivial ?_
    rotate_left
    · intro wq hSw
      go_simp
      try with_reducible rfl
    try go_frame
    refine wpAnyH_takeT (i := 1) (t := 7) (v := ?_) rfl rfl (by kernel_rfl) (by kernel_rfl) (by kernel_rfl) (fun _ _ _ h => h) (Or.inl ⟨by rfl, ?_⟩) trivial ?_
    rotate_left
    · intro wq hSw
      go_simp
      try with_reducible rfl
    try go_frame
    refine wpAnyH_takeT (i := 2) (t := 8) (v := ?_) rfl rfl (by kernel_rfl) (by kernel_rfl) (by kernel_rfl) (fun _ _ _ h => h) (Or.inl ⟨by rfl, ?_⟩) trivial ?_
    rotate_left
    · intro wq hSw
      go_simp
      try with_reducible rfl
    try go_frame
    refine wpAnyH_takeT (i := 4) (t := 10) (v := ?_) rfl rfl (by kernel_rfl) (by kernel_rfl) (by kernel_rfl) (fun _ _ _ h => h) (Or.inl ⟨by rfl, ?_⟩) trivial ?_
    rotate_left
    · intro wq hSw
      go_simp
      try with_reducible rfl
    try go_frame
    refine wpAnyH_takeT (i := 5) (t := 11) (v := ?_) rfl rfl (by kernel_rfl) (by kernel_rfl) (by kernel_rfl) (fun _ _ _ h => h) (Or.inl ⟨by rfl, ?_⟩) trivial ?_
    rotate_left
    · intro wq hSw
      go_simp
      try with_reducible rfl
    try go_frame
    refine wpAnyH_takeT (i := 6) (t := 12) (v := ?_) rfl rfl (by kernel_rfl) (by kernel_rfl) (by kernel_rfl) (fun _ _ _ h => h) (Or.inl ⟨by rfl, ?_⟩) trivial ?_
    rotate_left
    · intro wq hSw
      go_simp
      try with_reducible rfl
    try go_frame
    refine wpAnyH_ready (rs := [3, 8, 9]) (by kernel_rfl) (by simp) (AllReadyH.cons rfl (fun K hK => ?_) (AllReadyH.cons rfl (fun K hK => ?_) (AllReadyH.cons rfl (fun K hK => ?_) AllReadyH.nil)))
    · go_simp
      go_wp2_with (first | (go_at_call 66; with_reducible refine (T0.out _ CC).mono ?_; rintro e2 w2 ⟨rfl, b2⟩) | fail)
      replace CC := blTr b2 CC
      clear b2
      refine hK.out _ _ trivial (fun hHeld2 => ?_)
      clear hK K hHeld2
      try go_frame
      generalize w2 = Y at *
      refine wpAnyH_ready (rs := [7, 8, 9]) (by kernel_rfl) (by simp) (AllReadyH.cons rfl (fun K hK => ?_) (AllReadyH.cons rfl (fun K hK => ?_) (AllReadyH.cons rfl (fun K hK => ?_) AllReadyH.nil)))
      · go_simp
        go_wp2_with (first | (go_at_call 66; with_reducible refine (T1.out _ CC).mono ?_; rintro e2 w2 ⟨rfl, b2⟩) | fail)
        replace CC := blTr b2 CC
        clear b2
        refine hK.out _ _ trivial (fun hHeld2 => ?_)
        clear hK K hHeld2
        try go_frame
        generalize w2 = Y at *
        refine wpAnyH_ready (rs := [8, 9]) (by kernel_rfl) (by simp) (AllReadyH.cons rfl (fun K hK => ?_) (AllReadyH.cons rfl (fun K hK => ?_) AllReadyH.nil))
        · go_simp
          refine hK.out _ _ trivial (fun hHeld2 => ?_)
          clear hK K hHeld2
          try go_frame
          have hA := heap_alloc_new Y (.cells #[.int .i64 0, .string ⟨#[]⟩, .int .i64 0, .int .i64 0] 56)
          have lA : W.heap.size ≤ Y.heap.size := CC.size
          replace CC := blAl CC (.cells #[.int .i64 0, .string ⟨#[]⟩, .int .i64 0, .int .i64 0] 56)
          generalize hY2 : World.alloc Y (.cells #[.int .i64 0, .string ⟨#[]⟩, .int .i64 0, .int .i64 0] 56) = Y2 at *
          clear hY2
          generalize Y.heap.size = bA at *
          clear Y
          generalize Y2 = Y at *
          refine wpAnyH_ready (rs := [9]) (by kernel_rfl) (by simp) (AllReadyH.cons rfl (fun K hK => ?_) AllReadyH.nil)
          go_simp
          refine hK.out _ _ trivial (fun hHeld2 => ?_)
          clear hK K hHeld2
          try go_frame
          have hB := heap_alloc_new Y (.cells #[.int .i64 0, .string ⟨#[]⟩, .int .i64 0, .int .i64 0] 56)
          have lB : W.heap.size ≤ Y.heap.size := CC.size
          have hne : bA ≠ Y.heap.size := (Nat.ne_of_lt (tk_lt hA))
          replace hA := (alloc_old Y (.cells #[.int .i64 0, .string ⟨#[]⟩, .int .i64 0, .int .i64 0] 56) bA (tk_lt hA)).trans hA
          replace CC := blAl CC (.cells #[.int .i64 0, .string ⟨#[]⟩, .int .i64 0, .int .i64 0] 56)
          generalize hY2 : World.alloc Y (.cells #[.int .i64 0, .string ⟨#[]⟩, .int .i64 0, .int .i64 0] 56) = Y2 at *
          clear hY2
          generalize Y.heap.size = bB at *
          clear Y
          generalize Y2 = Y at *
          obtain ⟨f0, f1, f2, f3⟩ := tk_fr hA
          obtain ⟨x0, x1, x2, x3⟩ := tk_cells hA
          obtain ⟨y0, y1, y2, y3⟩ := tk_cells hB
          obtain ⟨g0, g1, g2, g3⟩ := tk_fr hB
          refine wpAnyH_ready (rs := [10]) (by kernel_rfl) (by simp) (AllReadyH.cons rfl (fun K hK => ?_) AllReadyH.nil)
          go_simp
          refine hK.out _ _ trivial (fun hHeld2 => ?_)
          clear hK K hHeld2
          try go_frame
          refine wpAnyH_ready (rs := [11]) (by kernel_rfl) (by simp) (AllReadyH.cons rfl (fun K hK => ?_) AllReadyH.nil)
          go_simp
          refine hK.out _ _ trivial (fun hHeld2 => ?_)
          clear hK K hHeld2
          try go_frame
          refine wpAnyH_done (by kernel_rfl) ?_ _
          go_wp2_with fail
          go_meet
          case rel => exact ⟨_, _, rfl, rfl, tk_put hA hB hne lA lB CC⟩
        · go_simp
          refine hK.out _ _ trivial (fun hHeld2 => ?_)
          clear hK K hHeld2
          try go_frame
          have hB := heap_alloc_new Y (.cells #[.int .i64 0, .string ⟨#[]⟩, .int .i64 0, .int .i64 0] 56)
          have lB : W.heap.size ≤ Y.heap.size := CC.size
          replace CC := blAl CC (.cells #[.int .i64 0, .string ⟨#[]⟩, .int .i64 0, .int .i64 0] 56)
          generalize hY2 : World.alloc Y (.cells #[.int .i64 0, .string ⟨#[]⟩, .int .i64 0, .int .i64 0] 56) = Y2 at *
          clear hY2
          generalize Y.heap.size = bB at *
          clear Y
          generalize Y2 = Y at *
          refine wpAnyH_ready (rs := [8]) (by kernel_rfl) (by simp) (AllReadyH.cons rfl (fun K hK => ?_) AllReadyH.nil)
          go_simp
          refine hK.out _ _ trivial (fun hHeld2 => ?_)
          clear hK K hHeld2
          try go_frame
          have hA := heap_alloc_new Y (.cells #[.int .i64 0, .string ⟨#[]⟩, .int .i64 0, .int .i64 0] 56)
          have lA : W.heap.size ≤ Y.heap.size := CC.size
          have hne : Y.heap.size ≠ bB := (Nat.ne_of_gt (tk_lt hB))
          replace hB := (alloc_old Y (.cells #[.int .i64 0, .string ⟨#[]⟩, .int .i64 0, .int .i64 0] 56) bB (tk_lt hB)).trans hB
          replace CC := blAl CC (.cells #[.int .i64 0, .string ⟨#[]⟩, .int .i64 0, .int .i64 0] 56)
          generalize hY2 : World.alloc Y (.cells #[.int .i64 0, .string ⟨#[]⟩, .int .i64 0, .int .i64 0] 56) = Y2 at *
          clear hY2
          generalize Y.heap.size = bA at *
          clear Y
          generalize Y2 = Y at *
          obtain ⟨f0, f1, f2, f3⟩ := tk_fr hA
          obtain ⟨x0, x1, x2, x3⟩ := tk_cells hA
          obtain ⟨y0, y1, y2, y3⟩ := tk_cells hB
          obtain ⟨g0, g1, g2, g3⟩ := tk_fr hB
          refine wpAnyH_ready (rs := [10]) (by kernel_rfl) (by simp) (AllReadyH.cons rfl (fun K hK => ?_) AllReadyH.nil)
          go_simp
          refine hK.out _ _ trivial (fun hHeld2 => ?_)
          clear hK K hHeld2
          try go_frame
          refine wpAnyH_ready (rs := [11]) (by kernel_rfl) (by simp) (AllReadyH.cons rfl (fun K hK => ?_) AllReadyH.nil)
          go_simp
          refine hK.out _ _ trivial (fun hHeld2 => ?_)
          clear hK K hHeld2
          try go_frame
          refine wpAnyH_done (by kernel_rfl) ?_ _
          go_wp2_with fail
          go_meet
          case rel => exact ⟨_, _, rfl, rfl, tk_put hA hB hne lA lB CC⟩
      · go_simp
        refine hK.out _ _ trivial (fun hHeld2 => ?_)
        clear hK K hHeld2
        try go_frame
        have hA := heap_alloc_new Y (.cells #[.int .i64 0, .string ⟨#[]⟩, .int .i64 0, .int .i64 0] 56)
        have lA : W.heap.size ≤ Y.heap.size := CC.size
        replace CC := blAl CC (.cells #[.int .i64 0, .string ⟨#[]⟩, .int .i64 0, .int .i64 0] 56)
        generalize hY2 : World.alloc Y (.cells #[.int .i64 0, .string ⟨#[]⟩, .int .i64 0, .int .i64 0] 56) = Y2 at *
        clear hY2
        generalize Y.heap.size = bA at *
        clear Y
        generalize Y2 = Y at *
        refine wpAnyH_ready (rs := [7, 9]) (by kernel_rfl) (by simp) (AllReadyH.cons rfl (fun K hK => ?_) (AllReadyH.cons rfl (fun K hK => ?_) AllReadyH.nil))
        · go_simp
          go_wp2_with (first | (go_at_call 66; with_reducible refine (T1.out _ CC).mono ?_; rintro e2 w2 ⟨rfl, b2⟩) | fail)
          replace hA := (b2.block _ (tk_lt hA)).trans hA
          replace CC := blTr b2 CC
          clear b2
          refine hK.out _ _ trivial (fun hHeld2 => ?_)
          clear hK K hHeld2
          try go_frame
          generalize w2 = Y at *
          refine wpAnyH_ready (rs := [9]) (by kernel_rfl) (by simp) (AllReadyH.cons rfl (fun K hK => ?_) AllReadyH.nil)
          go_simp
          refine hK.out _ _ trivial (fun hHeld2 => ?_)
          clear hK K hHeld2
          try go_frame
          have hB := heap_alloc_new Y (.cells #[.int .i64 0, .string ⟨#[]⟩, .int .i64 0, .int .i64 0] 56)
          have lB : W.heap.size ≤ Y.heap.size := CC.size
          have hne : bA ≠ Y.heap.size := (Nat.ne_of_lt (tk_lt hA))
          replace hA := (alloc_old Y (.cells #[.int .i64 0, .string ⟨#[]⟩, .int .i64 0, .int .i64 0] 56) bA (tk_lt hA)).trans hA
          replace CC := blAl CC (.cells #[.int .i64 0, .string ⟨#[]⟩, .int .i64 0, .int .i64 0] 56)
          generalize hY2 : World.alloc Y (.cells #[.int .i64 0, .string ⟨#[]⟩, .int .i64 0, .int .i64 0] 56) = Y2 at *
          clear hY2
          generalize Y.heap.size = bB at *
          clear Y
          generalize Y2 = Y at *
          obtain ⟨f0, f1, f2, f3⟩ := tk_fr hA
          obtain ⟨x0, x1, x2, x3⟩ := tk_cells hA
          obtain ⟨y0, y1, y2, y3⟩ := tk_cells hB
          obtain ⟨g0, g1, g2, g3⟩ := tk_fr hB
          refine wpAnyH_ready (rs := [10]) (by kernel_rfl) (by simp) (AllReadyH.cons rfl (fun K hK => ?_) AllReadyH.nil)
          go_simp
          refine hK.out _ _ trivial (fun hHeld2 => ?_)
          clear hK K hHeld2
          try go_frame
          refine wpAnyH_ready (rs := [11]) (by kernel_rfl) (by simp) (AllReadyH.cons rfl (fun K hK => ?_) AllReadyH.nil)
          go_simp
          refine hK.out _ _ trivial (fun hHeld2 => ?_)
          clear hK K hHeld2
          try go_frame
          refine wpAnyH_done (by kernel_rfl) ?_ _
          go_wp2_with fail
          go_meet
          case rel => exact ⟨_, _, rfl, rfl, tk_put hA hB hne lA lB CC⟩
        · go_simp
          refine hK.out _ _ trivial (fun hHeld2 => ?_)
          clear hK K hHeld2
          try go_frame
          have hB := heap_alloc_new Y (.cells #[.int .i64 0, .string ⟨#[]⟩, .int .i64 0, .int .i64 0] 56)
          have lB : W.heap.size ≤ Y.heap.size := CC.size
          have hne : bA ≠ Y.heap.size := (Nat.ne_of_lt (tk_lt hA))
          replace hA := (alloc_old Y (.cells #[.int .i64 0, .string ⟨#[]⟩, .int .i64 0, .int .i64 0] 56) bA (tk_lt hA)).trans hA
          replace CC := blAl CC (.cells #[.int .i64 0, .string ⟨#[]⟩, .int .i64 0, .int .i64 0] 56)
          generalize hY2 : World.alloc Y (.cells #[.int .i64 0, .string ⟨#[]⟩, .int .i64 0, .int .i64 0] 56) = Y2 at *
          clear hY2
          generalize Y.heap.size = bB at *
          clear Y
          generalize Y2 = Y at *
          refine wpAnyH_ready (rs := [7]) (by kernel_rfl) (by simp) (AllReadyH.cons rfl (fun K hK => ?_) AllReadyH.nil)
          go_simp
          go_wp2_with (first | (go_at_call 66; with_reducible refine (T1.out _ CC).mono ?_; rintro e2 w2 ⟨rfl, b2⟩) | fail)
          replace hA := (b2.block _ (tk_lt hA)).trans hA
          replace hB := (b2.block _ (tk_lt hB)).trans hB
          replace CC := blTr b2 CC
          clear b2
          refine hK.out _ _ trivial (fun hHeld2 => ?_)
          clear hK K hHeld2
          try go_frame
          generalize w2 = Y at *
          obtain ⟨f0, f1, f2, f3⟩ := tk_fr hA
          obtain ⟨x0, x1, x2, x3⟩ := tk_cells hA
          obtain ⟨y0, y1, y2, y3⟩ := tk_cells hB
          obtain ⟨g0, g1, g2, g3⟩ := tk_fr hB
          refine wpAnyH_ready (rs := [10]) (by kernel_rfl) (by simp) (AllReadyH.cons rfl (fun K hK => ?_) AllReadyH.nil)
          go_simp
          refine hK.out _ _ trivial (fun hHeld2 => ?_)
          clear hK K hHeld2
          try go_frame
          refine wpAnyH_ready (rs := [11]) (by kernel_rfl) (by simp) (AllReadyH.cons rfl (fun K hK => ?_) AllReadyH.nil)
          go_simp
          refine hK.out _ _ trivial (fun hHeld2 => ?_)
          clear hK K hHeld2
          try go_frame
          refine wpAnyH_done (by kernel_rfl) ?_ _
          go_wp2_with fail
          go_meet
          case rel => exact ⟨_, _, rfl, rfl, tk_put hA hB hne lA lB CC⟩
      · go_simp
        refine hK.out _ _ trivial (fun hHeld2 => ?_)
        clear hK K hHeld2
        try go_frame
        have hB := heap_alloc_new Y (.cells #[.int .i64 0, .string ⟨#[]⟩, .int .i64 0, .int .i64 0] 56)
        have lB : W.heap.size ≤ Y.heap.size := CC.size
        replace CC := blAl CC (.cells #[.int .i64 0, .string ⟨#[]⟩, .int .i64 0, .int .i64 0] 56)
        generalize hY2 : World.alloc Y (.cells #[.int .i64 0, .string ⟨#[]⟩, .int .i64 0, .int .i64 0] 56) = Y2 at *
        clear hY2
        generalize Y.heap.size = bB at *
        clear Y
        generalize Y2 = Y at *
        refine wpAnyH_ready (rs := [7, 8]) (by kernel_rfl) (by simp) (AllReadyH.cons rfl (fun K hK => ?_) (AllReadyH.cons rfl (fun K hK => ?_) AllReadyH.nil))
        · go_simp
          go_wp2_with (first | (go_at_call 66; with_reducible refine (T1.out _ CC).mono ?_; rintro e2 w2 ⟨rfl, b2⟩) | fail)
          replace hB := (b2.block _ (tk_lt hB)).trans hB
          replace CC := blTr b2 CC
          clear b2
          refine hK.out _ _ trivial (fun hHeld2 => ?_)
          clear hK K hHeld2
          try go_frame
          generalize w2 = Y at *
          refine wpAnyH_ready (rs := [8]) (by kernel_rfl) (by simp) (AllReadyH.cons rfl (fun K hK => ?_) AllReadyH.nil)
          go_simp
          refine hK.out _ _ trivial (fun hHeld2 => ?_)
          clear hK K hHeld2
          try go_frame
          have hA := heap_alloc_new Y (.cells #[.int .i64 0, .string ⟨#[]⟩, .int .i64 0, .int .i64 0] 56)
          have lA : W.heap.size ≤ Y.heap.size := CC.size
          have hne : Y.heap.size ≠ bB := (Nat.ne_of_gt (tk_lt hB))
          replace hB := (alloc_old Y (.cells #[.int .i64 0, .string ⟨#[]⟩, .int .i64 0, .int .i64 0] 56) bB (tk_lt hB)).trans hB
          replace CC := blAl CC (.cells #[.int .i64 0, .string ⟨#[]⟩, .int .i64 0, .int .i64 0] 56)
          generalize hY2 : World.alloc Y (.cells #[.int .i64 0, .string ⟨#[]⟩, .int .i64 0, .int .i64 0] 56) = Y2 at *
          clear hY2
          generalize Y.heap.size = bA at *
          clear Y
          generalize Y2 = Y at *
          obtain ⟨f0, f1, f2, f3⟩ := tk_fr hA
          obtain ⟨x0, x1, x2, x3⟩ := tk_cells hA
          obtain ⟨y0, y1, y2, y3⟩ := tk_cells hB
          obtain ⟨g0, g1, g2, g3⟩ := tk_fr hB
          refine wpAnyH_ready (rs := [10]) (by kernel_rfl) (by simp) (AllReadyH.cons rfl (fun K hK => ?_) AllReadyH.nil)
          go_simp
          refine hK.out _ _ trivial (fun hHeld2 => ?_)
          clear hK K hHeld2
          try go_frame
          refine wpAnyH_ready (rs := [11]) (by kernel_rfl) (by simp) (AllReadyH.cons rfl (fun K hK => ?_) AllReadyH.nil)
          go_simp
          refine hK.out _ _ trivial (fun hHeld2 => ?_)
          clear hK K hHeld2
          try go_frame
          refine wpAnyH_done (by kernel_rfl) ?_ _
          go_wp2_with fail
          go_meet
          case rel => exact ⟨_, _, rfl, rfl, tk_put hA hB hne lA lB CC⟩
        · go_simp
          refine hK.out _ _ trivial (fun hHeld2 => ?_)
          clear hK K hHeld2
          try go_frame
          have hA := heap_alloc_new Y (.cells #[.int .i64 0, .string ⟨#[]⟩, .int .i64 0, .int .i64 0] 56)
          have lA : W.heap.size ≤ Y.heap.size := CC.size
          have hne : Y.heap.size ≠ bB := (Nat.ne_of_gt (tk_lt hB))
          replace hB := (alloc_old Y (.cells #[.int .i64 0, .string ⟨#[]⟩, .int .i64 0, .int .i64 0] 56) bB (tk_lt hB)).trans hB
          replace CC := blAl CC (.cells #[.int .i64 0, .string ⟨#[]⟩, .int .i64 0, .int .i64 0] 56)
          generalize hY2 : World.alloc Y (.cells #[.int .i64 0, .string ⟨#[]⟩, .int .i64 0, .int .i64 0] 56) = Y2 at *
          clear hY2
          generalize Y.heap.size = bA at *
          clear Y
          generalize Y2 = Y at *
          refine wpAnyH_ready (rs := [7]) (by kernel_rfl) (by simp) (AllReadyH.cons rfl (fun K hK => ?_) AllReadyH.nil)
          go_simp
          go_wp2_with (first | (go_at_call 66; with_reducible refine (T1.out _ CC).mono ?_; rintro e2 w2 ⟨rfl, b2⟩) | fail)
          replace hA := (b2.block _ (tk_lt hA)).trans hA
          replace hB := (b2.block _ (tk_lt hB)).trans hB
          replace CC := blTr b2 CC
          clear b2
          refine hK.out _ _ trivial (fun hHeld2 => ?_)
          clear hK K hHeld2
          try go_frame
          generalize w2 = Y at *
          obtain ⟨f0, f1, f2, f3⟩ := tk_fr hA
          obtain ⟨x0, x1, x2, x3⟩ := tk_cells hA
          obtain ⟨y0, y1, y2, y3⟩ := tk_cells hB
          obtain ⟨g0, g1, g2, g3⟩ := tk_fr hB
          refine wpAnyH_ready (rs := [10]) (by kernel_rfl) (by simp) (AllReadyH.cons rfl (fun K hK => ?_) AllReadyH.nil)
          go_simp
          refine hK.out _ _ trivial (fun hHeld2 => ?_)
          clear hK K hHeld2
          try go_frame
          refine wpAnyH_ready (rs := [11]) (by kernel_rfl) (by simp) (AllReadyH.cons rfl (fun K hK => ?_) AllReadyH.nil)
          go_simp
          refine hK.out _ _ trivial (fun hHeld2 => ?_)
          clear hK K hHeld2
          try go_frame
          refine wpAnyH_done (by kernel_rfl) ?_ _
          go_wp2_with fail
          go_meet
          case rel => exact ⟨_, _, rfl, rfl, tk_put hA hB hne lA lB CC⟩
    · go_simp
      refine hK.out _ _ trivial (fun hHeld2 => ?_)
      clear hK K hHeld2
      try go_frame
      have hA := heap_alloc_new Y (.cells #[.int .i64 0, .string ⟨#[]⟩, .int .i64 0, .int .i64 0] 56)
      have lA : W.heap.size ≤ Y.heap.size := CC.size
      replace CC := blAl CC (.cells #[.int .i64 0, .string ⟨#[]⟩, .int .i64 0, .int .i64 0] 56)
      generalize hY2 : World.alloc Y (.cells #[.int .i64 0, .string ⟨#[]⟩, .int .i64 0, .int .i64 0] 56) = Y2 at *
      clear hY2
      generalize Y.heap.size = bA at *
      clear Y
      generalize Y2 = Y at *
      refine wpAnyH_ready (rs := [3, 9]) (by kernel_rfl) (by simp) (AllReadyH.cons rfl (fun K hK => ?_) (AllReadyH.cons rfl (fun K hK => ?_) AllReadyH.nil))
      · go_simp
        go_wp2_with (first | (go_at_call 66; with_reducible refine (T0.out _ CC).mono ?_; rintro e2 w2 ⟨rfl, b2⟩) | fail)
        replace hA := (b2.block _ (tk_lt hA)).trans hA
        replace CC := blTr b2 CC
        clear b2
        refine hK.out _ _ trivial (fun hHeld2 => ?_)
        clear hK K hHeld2
        try go_frame
        generalize w2 = Y at *
        refine wpAnyH_ready (rs := [7, 9]) (by kernel_rfl) (by simp) (AllReadyH.cons rfl (fun K hK => ?_) (AllReadyH.cons rfl (fun K hK => ?_) AllReadyH.nil))
        · go_simp
          go_wp2_with (first | (go_at_call 66; with_reducible refine (T1.out _ CC).mono ?_; rintro e2 w2 ⟨rfl, b2⟩) | fail)
          replace hA := (b2.block _ (tk_lt hA)).trans hA
          replace CC := blTr b2 CC
          clear b2
          refine hK.out _ _ trivial (fun hHeld2 => ?_)
          clear hK K hHeld2
          try go_frame
          generalize w2 = Y at *
          refine wpAnyH_ready (rs := [9]) (by kernel_rfl) (by simp) (AllReadyH.cons rfl (fun K hK => ?_) AllReadyH.nil)
          go_simp
          refine hK.out _ _ trivial (fun hHeld2 => ?_)
          clear hK K hHeld2
          try go_frame
          have hB := heap_alloc_new Y (.cells #[.int .i64 0, .string ⟨#[]⟩, .int .i64 0, .int .i64 0] 56)
          have lB : W.heap.size ≤ Y.heap.size := CC.size
          have hne : bA ≠ Y.heap.size := (Nat.ne_of_lt (tk_lt hA))
          replace hA := (alloc_old Y (.cells #[.int .i64 0, .string ⟨#[]⟩, .int .i64 0, .int .i64 0] 56) bA (tk_lt hA)).trans hA
          replace CC := blAl CC (.cells #[.int .i64 0, .string ⟨#[]⟩, .int .i64 0, .int .i64 0] 56)
          generalize hY2 : World.alloc Y (.cells #[.int .i64 0, .string ⟨#[]⟩, .int .i64 0, .int .i64 0] 56) = Y2 at *
          clear hY2
          generalize Y.heap.size = bB at *
          clear Y
          generalize Y2 = Y at *
          obtain ⟨f0, f1, f2, f3⟩ := tk_fr hA
          obtain ⟨x0, x1, x2, x3⟩ := tk_cells hA
          obtain ⟨y0, y1, y2, y3⟩ := tk_cells hB
          obtain ⟨g0, g1, g2, g3⟩ := tk_fr hB
          refine wpAnyH_ready (rs := [10]) (by kernel_rfl) (by simp) (AllReadyH.cons rfl (fun K hK => ?_) AllReadyH.nil)
          go_simp
          refine hK.out _ _ trivial (fun hHeld2 => ?_)
          clear hK K hHeld2
          try go_frame
          refine wpAnyH_ready (rs := [11]) (by kernel_rfl) (by simp) (AllReadyH.cons rfl (fun K hK => ?_) AllReadyH.nil)
          go_simp
          refine hK.out _ _ trivial (fun hHeld2 => ?_)
          clear hK K hHeld2
          try go_frame
          refine wpAnyH_done (by kernel_rfl) ?_ _
          go_wp2_with fail
          go_meet
          case rel => exact ⟨_, _, rfl, rfl, tk_put hA hB hne lA lB CC⟩
        · go_simp
          refine hK.out _ _ trivial (fun hHeld2 => ?_)
          clear hK K hHeld2
          try go_frame
          have hB := heap_alloc_new Y (.cells #[.int .i64 0, .string ⟨#[]⟩, .int .i64 0, .int .i64 0] 56)
          have lB : W.heap.size ≤ Y.heap.size := CC.size
          have hne : bA ≠ Y.heap.size := (Nat.ne_of_lt (tk_lt hA))
          replace hA := (alloc_old Y (.cells #[.int .i64 0, .string ⟨#[]⟩, .int .i64 0, .int .i64 0] 56) bA (tk_lt hA)).trans hA
          replace CC := blAl CC (.cells #[.int .i64 0, .string ⟨#[]⟩, .int .i64 0, .int .i64 0] 56)
          generalize hY2 : World.alloc Y (.cells #[.int .i64 0, .string ⟨#[]⟩, .int .i64 0, .int .i64 0] 56) = Y2 at *
          clear hY2
          generalize Y.heap.size = bB at *
          clear Y
          generalize Y2 = Y at *
          refine wpAnyH_ready (rs := [7]) (by kernel_rfl) (by simp) (AllReadyH.cons rfl (fun K hK => ?_) AllReadyH.nil)
          go_simp
          go_wp2_with (first | (go_at_call 66; with_reducible refine (T1.out _ CC).mono ?_; rintro e2 w2 ⟨rfl, b2⟩) | fail)
          replace hA := (b2.block _ (tk_lt hA)).trans hA
          replace hB := (b2.block _ (tk_lt hB)).trans hB
          replace CC := blTr b2 CC
          clear b2
          refine hK.out _ _ trivial (fun hHeld2 => ?_)
          clear hK K hHeld2
          try go_frame
          generalize w2 = Y at *
          obtain ⟨f0, f1, f2, f3⟩ := tk_fr hA
          obtain ⟨x0, x1, x2, x3⟩ := tk_cells hA
          obtain ⟨y0, y1, y2, y3⟩ := tk_cells hB
          obtain ⟨g0, g1, g2, g3⟩ := tk_fr hB
          refine wpAnyH_ready (rs := [10]) (by kernel_rfl) (by simp) (AllReadyH.cons rfl (fun K hK => ?_) AllReadyH.nil)
          go_simp
          refine hK.out _ _ trivial (fun hHeld2 => ?_)
          clear hK K hHeld2
          try go_frame
          refine wpAnyH_ready (rs := [11]) (by kernel_rfl) (by simp) (AllReadyH.cons rfl (fun K hK => ?_) AllReadyH.nil)
          go_simp
          refine hK.out _ _ trivial (fun hHeld2 => ?_)
          clear hK K hHeld2
          try go_frame
          refine wpAnyH_done (by kernel_rfl) ?_ _
          go_wp2_with fail
          go_meet
          case rel => exact ⟨_, _, rfl, rfl, tk_put hA hB hne lA lB CC⟩
      · go_simp
        refine hK.out _ _ trivial (fun hHeld2 => ?_)
        clear hK K hHeld2
        try go_frame
        have hB := heap_alloc_new Y (.cells #[.int .i64 0, .string ⟨#[]⟩, .int .i64 0, .int .i64 0] 56)
        have lB : W.heap.size ≤ Y.heap.size := CC.size
        have hne : bA ≠ Y.heap.size := (Nat.ne_of_lt (tk_lt hA))
        replace hA := (alloc_old Y (.cells #[.int .i64 0, .string ⟨#[]⟩, .int .i64 0, .int .i64 0] 56) bA (tk_lt hA)).trans hA
        replace CC := blAl CC (.cells #[.int .i64 0, .string ⟨#[]⟩, .int .i64 0, .int .i64 0] 56)
        generalize hY2 : World.alloc Y (.cells #[.int .i64 0, .string ⟨#[]⟩, .int .i64 0, .int .i64 0] 56) = Y2 at *
        clear hY2
        generalize Y.heap.size = bB at *
        clear Y
        generalize Y2 = Y at *
        refine wpAnyH_ready (rs := [3]) (by kernel_rfl) (by simp) (AllReadyH.cons rfl (fun K hK => ?_) AllReadyH.nil)
        go_simp
        go_wp2_with (first | (go_at_call 66; with_reducible refine (T0.out _ CC).mono ?_; rintro e2 w2 ⟨rfl, b2⟩) | fail)
        replace hA := (b2.block _ (tk_lt hA)).trans hA
        replace hB := (b2.block _ (tk_lt hB)).trans hB
        replace CC := blTr b2 CC
        clear b2
        refine hK.out _ _ trivial (fun hHeld2 => ?_)
        clear hK K hHeld2
        try go_frame
        generalize w2 = Y at *
        refine wpAnyH_ready (rs := [7]) (by kernel_rfl) (by simp) (AllReadyH.cons rfl (fun K hK => ?_) AllReadyH.nil)
        go_simp
        go_wp2_with (first | (go_at_call 66; with_reducible refine (T1.out _ CC).mono ?_; rintro e2 w2 ⟨rfl, b2⟩) | fail)
        replace hA := (b2.block _ (tk_lt hA)).trans hA
        replace hB := (b2.block _ (tk_lt hB)).trans hB
        replace CC := blTr b2 CC
        clear b2
        refine hK.out _ _ trivial (fun hHeld2 => ?_)
        clear hK K hHeld2
        try go_frame
        generalize w2 = Y at *
        obtain ⟨f0, f1, f2, f3⟩ := tk_fr hA
        obtain ⟨x0, x1, x2, x3⟩ := tk_cells hA
        obtain ⟨y0, y1, y2, y3⟩ := tk_cells hB
        obtain ⟨g0, g1, g2, g3⟩ := tk_fr hB
        refine wpAnyH_ready (rs := [10]) (by kernel_rfl) (by simp) (AllReadyH.cons rfl (fun K hK => ?_) AllReadyH.nil)
        go_simp
        refine hK.out _ _ trivial (fun hHeld2 => ?_)
        clear hK K hHeld2
        try go_frame
        refine wpAnyH_ready (rs := [11]) (by kernel_rfl) (by simp) (AllReadyH.cons rfl (fun K hK => ?_) AllReadyH.nil)
        go_simp
        refine hK.out _ _ trivial (fun hHeld2 => ?_)
        clear hK K hHeld2
        try go_frame
        refine wpAnyH_done (by kernel_rfl) ?_ _
        go_wp2_with fail
        go_meet
        case rel => exact ⟨_, _, rfl, rfl, tk_put hA hB hne lA lB CC⟩
    · go_simp
      refine hK.out _ _ trivial (fun hHeld2 => ?_)
      clear hK K hHeld2
      try go_frame
      have hB := heap_alloc_new Y (.cells #[.int .i64 0, .string ⟨#[]⟩, .int .i64 0, .int .i64 0] 56)
      have lB : W.heap.size ≤ Y.heap.size := CC.size
      replace CC := blAl CC (.cells #[.int .i64 0, .string ⟨#[]⟩, .int .i64 0, .int .i64 0] 56)
      generalize hY2 : World.alloc Y (.cells #[.int .i64 0, .string ⟨#[]⟩, .int .i64 0, .int .i64 0] 56) = Y2 at *
      clear hY2
      generalize Y.heap.size = bB at *
      clear Y
      generalize Y2 = Y at *
      refine wpAnyH_ready (rs := [3, 8]) (by kernel_rfl) (by simp) (AllReadyH.cons rfl (fun K hK => ?_) (AllReadyH.cons rfl (fun K hK => ?_) AllReadyH.nil))
      · go_simp
        go_wp2_with (first | (go_at_call 66; with_reducible refine (T0.out _ CC).mono ?_; rintro e2 w2 ⟨rfl, b2⟩) | fail)
        replace hB := (b2.block _ (tk_lt hB)).trans hB
        replace CC := blTr b2 CC
        clear b2
        refine hK.out _ _ trivial (fun hHeld2 => ?_)
        clear hK K hHeld2
        try go_frame
        generalize w2 = Y at *
        refine wpAnyH_ready (rs := [7, 8]) (by kernel_rfl) (by simp) (AllReadyH.cons rfl (fun K hK => ?_) (AllReadyH.cons rfl (fun K hK => ?_) AllReadyH.nil))
        · go_simp
          go_wp2_with (first | (go_at_call 66; with_reducible refine (T1.out _ CC).mono ?_; rintro e2 w2 ⟨rfl, b2⟩) | fail)
          replace hB := (b2.block _ (tk_lt hB)).trans hB
          replace CC := blTr b2 CC
          clear b2
          refine hK.out _ _ trivial (fun hHeld2 => ?_)
          clear hK K hHeld2
          try go_frame
          generalize w2 = Y at *
          refine wpAnyH_ready (rs := [8]) (by kernel_rfl) (by simp) (AllReadyH.cons rfl (fun K hK => ?_) AllReadyH.nil)
          go_simp
          refine hK.out _ _ trivial (fun hHeld2 => ?_)
          clear hK K hHeld2
          try go_frame
          have hA := heap_alloc_new Y (.cells #[.int .i64 0, .string ⟨#[]⟩, .int .i64 0, .int .i64 0] 56)
          have lA : W.heap.size ≤ Y.heap.size := CC.size
          have hne : Y.heap.size ≠ bB := (Nat.ne_of_gt (tk_lt hB))
          replace hB := (alloc_old Y (.cells #[.int .i64 0, .string ⟨#[]⟩, .int .i64 0, .int .i64 0] 56) bB (tk_lt hB)).trans hB
          replace CC := blAl CC (.cells #[.int .i64 0, .string ⟨#[]⟩, .int .i64 0, .int .i64 0] 56)
          generalize hY2 : World.alloc Y (.cells #[.int .i64 0, .string ⟨#[]⟩, .int .i64 0, .int .i64 0] 56) = Y2 at *
          clear hY2
          generalize Y.heap.size = bA at *
          clear Y
          generalize Y2 = Y at *
          obtain ⟨f0, f1, f2, f3⟩ := tk_fr hA
          obtain ⟨x0, x1, x2, x3⟩ := tk_cells hA
          obtain ⟨y0, y1, y2, y3⟩ := tk_cells hB
          obtain ⟨g0, g1, g2, g3⟩ := tk_fr hB
          refine wpAnyH_ready (rs := [10]) (by kernel_rfl) (by simp) (AllReadyH.cons rfl (fun K hK => ?_) AllReadyH.nil)
          go_simp
          refine hK.out _ _ trivial (fun hHeld2 => ?_)
          clear hK K hHeld2
          try go_frame
          refine wpAnyH_ready (rs := [11]) (by kernel_rfl) (by simp) (AllReadyH.cons rfl (fun K hK => ?_) AllReadyH.nil)
          go_simp
          refine hK.out _ _ trivial (fun hHeld2 => ?_)
          clear hK K hHeld2
          try go_frame
          refine wpAnyH_done (by kernel_rfl) ?_ _
          go_wp2_with fail
          go_meet
          case rel => exact ⟨_, _, rfl, rfl, tk_put hA hB hne lA lB CC⟩
        · go_simp
          refine hK.out _ _ trivial (fun hHeld2 => ?_)
          clear hK K hHeld2
          try go_frame
          have hA := heap_alloc_new Y (.cells #[.int .i64 0, .string ⟨#[]⟩, .int .i64 0, .int .i64 0] 56)
          have lA : W.heap.size ≤ Y.heap.size := CC.size
          have hne : Y.heap.size ≠ bB := (Nat.ne_of_gt (tk_lt hB))
          replace hB := (alloc_old Y (.cells #[.int .i64 0, .string ⟨#[]⟩, .int .i64 0, .int .i64 0] 56) bB (tk_lt hB)).trans hB
          replace CC := blAl CC (.cells #[.int .i64 0, .string ⟨#[]⟩, .int .i64 0, .int .i64 0] 56)
          generalize hY2 : World.alloc Y (.cells #[.int .i64 0, .string ⟨#[]⟩, .int .i64 0, .int .i64 0] 56) = Y2 at *
          clear hY2
          generalize Y.heap.size = bA at *
          clear Y
          generalize Y2 = Y at *
          refine wpAnyH_ready (rs := [7]) (by kernel_rfl) (by simp) (AllReadyH.cons rfl (fun K hK => ?_) AllReadyH.nil)
          go_simp
          go_wp2_with (first | (go_at_call 66; with_reducible refine (T1.out _ CC).mono ?_; rintro e2 w2 ⟨rfl, b2⟩) | fail)
          replace hA := (b2.block _ (tk_lt hA)).trans hA
          replace hB := (b2.block _ (tk_lt hB)).trans hB
          replace CC := blTr b2 CC
          clear b2
          refine hK.out _ _ trivial (fun hHeld2 => ?_)
          clear hK K hHeld2
          try go_frame
          generalize w2 = Y at *
          obtain ⟨f0, f1, f2, f3⟩ := tk_fr hA
          obtain ⟨x0, x1, x2, x3⟩ := tk_cells hA
          obtain ⟨y0, y1, y2, y3⟩ := tk_cells hB
          obtain ⟨g0, g1, g2, g3⟩ := tk_fr hB
          refine wpAnyH_ready (rs := [10]) (by kernel_rfl) (by simp) (AllReadyH.cons rfl (fun K hK => ?_) AllReadyH.nil)
          go_simp
          refine hK.out _ _ trivial (fun hHeld2 => ?_)
          clear hK K hHeld2
          try go_frame
          refine wpAnyH_ready (rs := [11]) (by kernel_rfl) (by simp) (AllReadyH.cons rfl (fun K hK => ?_) AllReadyH.nil)
          go_simp
          refine hK.out _ _ trivial (fun hHeld2 => ?_)
          clear hK K hHeld2
          try go_frame
          refine wpAnyH_done (by kernel_rfl) ?_ _
          go_wp2_with fail
          go_meet
          case rel => exact ⟨_, _, rfl, rfl, tk_put hA hB hne lA lB CC⟩
      · go_simp
        refine hK.out _ _ trivial (fun hHeld2 => ?_)
        clear hK K hHeld2
        try go_frame
        have hA := heap_alloc_new Y (.cells #[.int .i64 0, .string ⟨#[]⟩, .int .i64 0, .int .i64 0] 56)
        have lA : W.heap.size ≤ Y.heap.size := CC.size
        have hne : Y.heap.size ≠ bB := (Nat.ne_of_gt (tk_lt hB))
        replace hB := (alloc_old Y (.cells #[.int .i64 0, .string ⟨#[]⟩, .int .i64 0, .int .i64 0] 56) bB (tk_lt hB)).trans hB
        replace CC := blAl CC (.cells #[.int .i64 0, .string ⟨#[]⟩, .int .i64 0, .int .i64 0] 56)
        generalize hY2 : World.alloc Y (.cells #[.int .i64 0, .string ⟨#[]⟩, .int .i64 0, .int .i64 0] 56) = Y2 at *
        clear hY2
        generalize Y.heap.size = bA at *
        clear Y
        generalize Y2 = Y at *
        refine wpAnyH_ready (rs := [3]) (by kernel_rfl) (by simp) (AllReadyH.cons rfl (fun K hK => ?_) AllReadyH.nil)
        go_simp
        go_wp2_with (first | (go_at_call 66; with_reducible refine (T0.out _ CC).mono ?_; rintro e2 w2 ⟨rfl, b2⟩) | fail)
        replace hA := (b2.block _ (tk_lt hA)).trans hA
        replace hB := (b2.block _ (tk_lt hB)).trans hB
        replace CC := blTr b2 CC
        clear b2
        refine hK.out _ _ trivial (fun hHeld2 => ?_)
        clear hK K hHeld2
        try go_frame
        generalize w2 = Y at *
        refine wpAnyH_ready (rs := [7]) (by kernel_rfl) (by simp) (AllReadyH.cons rfl (fun K hK => ?_) AllReadyH.nil)
        go_simp
        go_wp2_with (first | (go_at_call 66; with_reducible refine (T1.out _ CC).mono ?_; rintro e2 w2 ⟨rfl, b2⟩) | fail)
        replace hA := (b2.block _ (tk_lt hA)).trans hA
        replace hB := (b2.block _ (tk_lt hB)).trans hB
        replace CC := blTr b2 CC
        clear b2
        refine hK.out _ _ trivial (fun hHeld2 => ?_)
        clear hK K hHeld2
        try go_frame
        generalize w2 = Y at *
        obtain ⟨f0, f1, f2, f3⟩ := tk_fr hA
        obtain ⟨x0, x1, x2, x3⟩ := tk_cells hA
        obtain ⟨y0, y1, y2, y3⟩ := tk_cells hB
        obtain ⟨g0, g1, g2, g3⟩ := tk_fr hB
        refine wpAnyH_ready (rs := [10]) (by kernel_rfl) (by simp) (AllReadyH.cons rfl (fun K hK => ?_) AllReadyH.nil)
        go_simp
        refine hK.out _ _ trivial (fun hHeld2 => ?_)
        clear hK K hHeld2
        try go_frame
        refine wpAnyH_ready (rs := [11]) (by kernel_rfl) (by simp) (AllReadyH.cons rfl (fun K hK => ?_) AllReadyH.nil)
        go_simp
        refine hK.out _ _ trivial (fun hHeld2 => ?_)
        clear hK K hHeld2
        try go_frame
        refine wpAnyH_done (by kernel_rfl) ?_ _
        go_wp2_with fail
        go_meet
        case rel => exact ⟨_, _, rfl, rfl, tk_put hA hB hne lA lB CC⟩
  case rest =>
  obtain ⟨b4, b5, rfl, rfl, ⟨p0, p1, p2, p3⟩, ⟨q0, q1, q2, q3⟩, bx⟩ := hcut
  have B4 := hid bx
  have HNx := hid (HN.out _ (H0.out.below bx).gl)
  have hs0 : W.heap.size = w.heap.size + 1 := hsz0
  have HRs := hid (HRes.out.below bx (by omega))
  have l4 := cell_lt p0
  have l5 := cell_lt q0
  clear bx HN
  by_cases hy : a = 1 ∧ b = 5 ∧ t = [40]
  · have HR2 : Hid (calN s = R) := by show _ = _; rw [← HR.out, if_pos hy]
    obtain ⟨rfl, rfl, rfl⟩ := hy
    rw [HR2.out, HER.out, HSM.out] at HNx
    go_wp2_with (first
      | (go_at_call 96; go_loud (with_reducible refine HNx.out.mono ?_); rintro e5 w5 ⟨rfl, b5'⟩; have B5 := hid (B4.out.trans (b5'.mono B4.out.size)); have res5 := HRs.out.below b5' (Nat.lt_of_lt_of_le (by omega) B4.out.size); obtain ⟨z0, z1, z2, z3⟩ := res5.cells; have zf := res5.frozen; clear b5' res5)
      | fail)
    refine bodyPost_ret (by simp [results, Tryz.results67, go_sem, z0, z1, z2, z3]; try rfl) rfl ?_
    exact ⟨rfl, below_putC (HB0.out.trans (B5.out.mono HB0.out.size))⟩
  · have HR2 : Hid (R = none) := by show _ = _; rw [← HR.out, if_neg hy]
    obtain ⟨z0, z1, z2, z3⟩ := HRs.out.cells
    have zf := HRs.out.frozen
    have er := HER.out
    have em := HSM.out
    rw [HR2.out] at er em
    cases er
    cases em
    clear HNx HR HR2 HER HSM
    by_cases ha : a = 1
    · subst ha
      by_cases hb : b = 5
      · subst hb
        have ht : ¬ t = [40] := fun q => hy ⟨rfl, rfl, q⟩
        have ht' : (t == [40]) = false := by simpa using ht
        clear hy
        go_wp2_with fail
        refine bodyPost_ret (by simp [results, Tryz.results67, go_sem, z0, z1, z2, z3]; try rfl) rfl ?_
        exact ⟨rfl, below_putC (HB0.out.trans (B4.out.mono HB0.out.size))⟩
      · clear hy
        go_wp2_with fail
        refine bodyPost_ret (by simp [results, Tryz.results67, go_sem, z0, z1, z2, z3]; try rfl) rfl ?_
        exact ⟨rfl, below_putC (HB0.out.trans (B4.out.mono HB0.out.size))⟩
    · clear hy
      go_wp2_with fail
      refine bodyPost_ret (by simp [results, Tryz.results67, go_sem, z0, z1, z2, z3]; try rfl) rfl ?_
      exact ⟨rfl, below_putC (HB0.out.trans (B4.out.mono HB0.out.size))⟩
end Go.Proofs.YtfhhigablibeoaaGreatDoor
