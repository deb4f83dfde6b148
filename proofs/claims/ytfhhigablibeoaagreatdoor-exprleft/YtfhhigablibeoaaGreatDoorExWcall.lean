/- What call of package expr's writer does, if expr does what it must. Conditions: the tables lie in memory as their text lays them; the bytes lie within the reach. -/
import Derived.Test.YtfhhigablibeoaaGreatDoorExPair
namespace Go.Proofs.YtfhhigablibeoaaGreatDoor
open Go.RowKit Go.Lib Go.Sort
set_option linter.unusedVariables false
set_option maxRecDepth 20000

theorem joinT_app : ∀ a b, joinC.joinT (a ++ b) = joinC.joinT a ++ joinC.joinT b
  | [], b => rfl
  | x :: a, b => by simp [joinC.joinT, joinT_app a b]
theorem joinC_app {a : List (Int × List UInt8)} (h : a ≠ []) (b : List (Int × List UInt8)) : joinC (a ++ b) = joinC a ++ joinC.joinT b := by
  cases a with
  | nil => exact absurd rfl h
  | cons x a => simp [joinC, joinT_app]
theorem join_le (ts : List (Int × List UInt8)) (k : Nat) : (joinC (ts.take k)).length ≤ (joinC ts).length := by
  by_cases h : ts.take k = []
  · rw [h]; simp [joinC]
  · have := joinC_app h (ts.drop k)
    rw [List.take_append_drop] at this
    rw [this]
    simp
theorem join_succ (xs : List Ex) (k : Nat) (h : k < xs.length) : joinC ((xs.map fun x : Ex => (x.line, prE x)).take (k + 1)) = joinC ((xs.map fun x : Ex => (x.line, prE x)).take k) ++ (if k = 0 then prE xs[k] else 44 :: 32 :: prE xs[k]) := by
  have hk : k < (xs.map fun x : Ex => (x.line, prE x)).length := by simpa using h
  rw [List.take_succ_eq_append_getElem hk]
  by_cases h0 : k = 0
  · subst h0
    simp [joinC, joinC.joinT]
  · rw [if_neg h0, joinC_app (by
      intro e
      have := congrArg List.length e
      rw [List.length_take, List.length_map] at this
      simp only [List.length_nil] at this
      omega)]
    simp [joinC.joinT]
/-- A variable that holds a call. -/
def CB0 (w : World) (b : Nat) (o : Cal) : Prop := w.heap[b]? = some (.cells #[.int .i64 o.kind, .int .i64 o.op, .string ⟨o.name.toArray⟩, .int .i64 (o.cnt : Int)] 120 (0, 0))
theorem CB0.cells {w : World} {b : Nat} {o : Cal} (h : CB0 w b o) : w.cell? ⟨b, 0, none⟩ = some (.int .i64 o.kind) ∧ w.cell? ⟨b, 1, none⟩ = some (.int .i64 o.op) ∧ w.cell? ⟨b, 2, none⟩ = some (.string ⟨o.name.toArray⟩) ∧ w.cell? ⟨b, 3, none⟩ = some (.int .i64 (o.cnt : Int)) := by
  refine ⟨?_, ?_, ?_, ?_⟩ <;> (rw [Lib.cell_of_heap h]; rfl)
/-- A call as it is written. -/
def prC (o : Cal) (xs : List Ex) : List UInt8 := toUpperA o.name ++ 40 :: ((if xs.isEmpty then [42] else joinC (xs.map fun x : Ex => (x.line, prE x))) ++ [41])
set_option maxHeartbeats 16000000 in
theorem wcall_any {w0 w : World} {F : Nat → Prop} {b m : Nat} {l : List UInt8} (xs : List Ex) (HE : xs ≠ [] → ExprOk w0 m) (hc : Cx w0 w F) (h : WF F b l w) (k0 op : Int) (v : Val) (t n : List UInt8) (p : Option Addr) (c : Nat) (o : Cal) (ho : calOf k0 op = some o) (oks : ∀ x ∈ xs, OkE m x) (hxl : xs.length ≤ 3)
    (eat : EAt w0 (fun _ => True) (m + 1) ⟨k0, op, v, t, n, xs⟩ p) (hlen : l.length + (prC o xs).length ≤ 140737488351232) :
    Calls Tryz.prog 47 #[.pointer (some ⟨b, 0, none⟩), .agg #[.int .i64 k0, .int .i64 op, .int .i64 v.k, .int .i64 v.n, .string v.s, .string ⟨t.toArray⟩, .string ⟨n.toArray⟩, .int .i64 0, .int .i64 0, .slice p xs.length c]] w fun r w' => r = .returned (.tuple #[]) ∧ WrE F b (l ++ prC o xs) w w' := by
  have HX := hid (BG.new w k0 op v.k v.n 0 0 v.s ⟨t.toArray⟩ ⟨n.toArray⟩ p xs.length c)
  have S0 := hid ((WS.start h hc.F1).alloc (.cells #[.int .i64 k0, .int .i64 op, .int .i64 v.k, .int .i64 v.n, .string v.s, .string ⟨t.toArray⟩, .string ⟨n.toArray⟩, .int .i64 0, .int .i64 0, .slice p xs.length c] 32))
  have HC := hid hc
  have HEN := hid HE
  have HKS := hid oks
  have HA := hid (fun X k (hk : k < xs.length) (B : Below w0.heap.size w0 X) => eat_opd eat B (i := k) hk)
  have HOP := hid (fun w (g : Gl w) => callOf_any k0 op v.k v.n 0 0 v.s ⟨t.toArray⟩ ⟨n.toArray⟩ p xs.length c w g)
  rw [ho] at HOP
  unfold calO at HOP
  simp only [Option.isSome_some] at HOP
  have hmem := cals_ok o (calOf_mem ho)
  have HU := hid (fun w => upper_any o.name (by omega) hmem.2 w)
  clear h hc HE oks eat ho hmem
  obtain ⟨st, hst⟩ : ∃ st : List UInt8, st = (if xs.isEmpty then [42] else []) := ⟨_, rfl⟩
  have HTOT : Hid (l ++ prC o xs = l ++ (toUpperA o.name ++ [40]) ++ st ++ joinC (xs.map fun x : Ex => (x.line, prE x)) ++ [41]) := by
    show _ = _
    rw [hst]
    unfold prC
    cases xs with
    | nil => simp [joinC]
    | cons a r => simp
  have hL0 : l.length + (toUpperA o.name ++ [40]).length + st.length + (joinC (xs.map fun x : Ex => (x.line, prE x))).length + 1 ≤ 140737488351232 := by
    have := congrArg List.length HTOT.out
    simp only [List.length_append, List.length_cons, List.length_nil] at this hlen ⊢
    omega
  have HL0 := hid hL0
  clear hlen hL0
  go_enter Tryz.func47, Tryz.ntmps47
  go_upto_region 1 with fail
  generalize hW : w.alloc _ = W at *
  clear hW
  have hXl := HX.out.lt
  obtain ⟨x0, x1, x2, x3, x4, x5, x6, x7, x8, x9⟩ := HX.out.cells
  have T1 := hid (HOP.out W (HC.out.gl' S0.out))
  go_upto_region 2 with (go_at_call 75; with_reducible refine T1.out.mono ?_; rintro r w2 ⟨rfl, b2⟩
                         have HX2 := hid (HX.out.below b2)
                         have S2 := hid (S0.out.below b2)
                         clear b2 x0 x1 x2 x3 x4 x5 x6 x7 x8 x9)
  have S3 := hid (S2.out.alloc (.cells #[.int .i64 o.kind, .int .i64 o.op, .string ⟨o.name.toArray⟩, .int .i64 (o.cnt : Int)] 120))
  have HX3 := hid (HX2.out.below (albl w2 (.cells #[.int .i64 o.kind, .int .i64 o.op, .string ⟨o.name.toArray⟩, .int .i64 (o.cnt : Int)] 120)))
  have HO3 := hid (show CB0 (w2.alloc (.cells #[.int .i64 o.kind, .int .i64 o.op, .string ⟨o.name.toArray⟩, .int .i64 (o.cnt : Int)] 120)) w2.heap.size o from heap_alloc_new w2 _)
  generalize hW3 : w2.alloc _ = W3 at *
  clear hW3 hXl
  have hX3l := HX3.out.lt
  obtain ⟨x0, x1, x2, x3, x4, x5, x6, x7, x8, x9⟩ := HX3.out.cells
  obtain ⟨o0, o1, o2, o3⟩ := HO3.out.cells
  have TU := hid (HU.out W3)
  go_upto_region 3 with (first
    | (go_at_call 43; with_reducible refine TU.out.mono ?_; rintro r w4 ⟨rfl, b4⟩
       have HX4 := hid (HX3.out.below b4)
       have S4 := hid (S3.out.below b4)
       have T5 := hid (S4.out.text HC.out.F1 [toUpperA o.name, [40]] [.string ⟨(toUpperA o.name).toArray⟩, .string ⟨#[40]⟩] rfl 2 2 rfl (by have := HL0.out; simp at this ⊢; omega) (by simp))
       rw [flat2] at T5
       clear b4 x0 x1 x2 x3 x4 x5 x6 x7 x8 x9)
    | (go_at_call 39; with_reducible refine T5.out.mono ?_; rintro r w5 ⟨rfl, s5, G5, c5, g5, _⟩
       have HX5 := hid ((HX4.out.chg (Chg.of_below (F := fun _ => False) (albl w4 _)) id).chg c5 (g5 _ (Or.inl (Or.inl (Or.inr rfl)))))
       have S5 := hid s5
       clear s5 c5 g5)
    | fail)
  obtain ⟨x0, x1, x2, x3, x4, x5, x6, x7, x8, x9⟩ := HX5.out.cells
  cases hem : xs.isEmpty with
  | true =>
    have hz : ((xs.length : Int) == 0) = true := by simp [List.isEmpty_iff.1 hem]
    rw [hem, if_pos rfl] at hst
    subst hst
    have T6 := hid (S5.out.text HC.out.F1 [[42]] [.string ⟨#[42]⟩] rfl 1 1 rfl (by have := HL0.out; simp at this ⊢; omega) (by simp))
    rw [flat1] at T6
    go_upto_region 5 with (first
      | (go_at_call 39; with_reducible refine T6.out.mono ?_; rintro r w6 ⟨rfl, s6, G6, c6, g6, _⟩
         have HX6 := hid ((HX5.out.chg (Chg.of_below (F := fun _ => False) (albl w5 _)) id).chg c6 (g6 _ (Or.inl (Or.inl (Or.inl (Or.inr rfl))))))
         have SL := hid s6
         clear s6 c6 g6)
      | fail)
    clear x0 x1 x2 x3 x4 x5 x6 x7 x8 x9
    obtain ⟨x0, x1, x2, x3, x4, x5, x6, x7, x8, x9⟩ := HX6.out.cells
    have hLT : (l ++ (toUpperA o.name ++ [40]) ++ [42]).length + (joinC (xs.map fun x : Ex => (x.line, prE x)) ++ [41]).length ≤ 140737488351232 := by have := HL0.out; simp at this ⊢; omega
    generalize l ++ (toUpperA o.name ++ [40]) ++ [42] = l1 at *
    have HLT := hid hLT
    clear hLT
    go_upto_region 5 with fail
    go_wp2_with fail
    go_loopw [29] (fun i wr => ∃ k : Nat, k ≤ xs.length ∧ i = .int .i64 (k : Int) ∧ Hid (∃ P, WS F P b (l1 ++ joinC ((xs.map fun x : Ex => (x.line, prE x)).take k)) w wr)) (fun i _ => xs.length - (RowKit.intOf i).toNat)
    case atStart => exact ⟨0, Nat.zero_le _, rfl, _, by simpa [joinC] using SL.out⟩
    case round =>
      obtain ⟨k, hk, rfl, hS⟩ := hrel
      obtain ⟨P, hS'⟩ := hS.out
      have SK := hid hS'
      clear hS hS'
      by_cases hx : k < xs.length
      · exfalso
        rw [List.isEmpty_iff.1 hem] at hx
        simp at hx
      · have hxi : ¬ (k : Int) < (xs.length : Int) := by omega
        obtain rfl : k = xs.length := by omega
        have hT : (xs.map fun x : Ex => (x.line, prE x)).take xs.length = xs.map fun x : Ex => (x.line, prE x) := by rw [List.take_of_length_le (by simp)]
        have SE := hid SK.out
        rw [hT] at SE
        have T1 := hid (SE.out.text HC.out.F1 [[41]] [.string ⟨#[41]⟩] rfl 1 1 rfl (by have := HLT.out; simp only [List.length_append] at this ⊢; simp at this ⊢; omega) (by simp))
        rw [flat1] at T1
        clear hT SK
        go_wp2_with (first
          | (go_at_call 39; with_reducible refine T1.out.mono ?_; rintro r w8 ⟨rfl, s8, _⟩; have S8 := hid s8; clear s8)
          | fail)
        refine end0 rfl rfl ⟨rfl, ?_⟩
        have := S8.out.fin
        rw [HTOT.out]
        simpa using this
  | false =>
    have hz : ((xs.length : Int) == 0) = false := by
      have hne : xs ≠ [] := by intro e; rw [e] at hem; simp at hem
      have := List.length_pos_iff.2 hne
      exact beq_eq_false_iff_ne.2 (by omega)
    rw [hem, if_neg (by simp)] at hst
    subst hst
    have HEE := hid (HEN.out (by intro e; rw [e] at hem; simp at hem))
    have SL := hid S5.out
    have hLT : (l ++ (toUpperA o.name ++ [40])).length + (joinC (xs.map fun x : Ex => (x.line, prE x)) ++ [41]).length ≤ 140737488351232 := by have := HL0.out; simp at this ⊢; omega
    rw [List.append_nil] at HTOT
    generalize l ++ (toUpperA o.name ++ [40]) = l1 at *
    have HLT := hid hLT
    clear hLT
    go_upto_region 5 with fail
    go_wp2_with fail
    go_loopw [29] (fun i wr => ∃ k : Nat, k ≤ xs.length ∧ i = .int .i64 (k : Int) ∧ Hid (∃ P, WS F P b (l1 ++ joinC ((xs.map fun x : Ex => (x.line, prE x)).take k)) w wr)) (fun i _ => xs.length - (RowKit.intOf i).toNat)
    case atStart => exact ⟨0, Nat.zero_le _, rfl, _, by simpa [joinC] using SL.out⟩
    case round =>
      obtain ⟨k, hk, rfl, hS⟩ := hrel
      obtain ⟨P, hS'⟩ := hS.out
      have SK := hid hS'
      clear hS hS'
      by_cases hx : k < xs.length
      · have hxi : (k : Int) < (xs.length : Int) := by omega
        obtain ⟨blk, off, q, cx, rfl, hxc, ex, hblk⟩ := HA.out wr k hx (HC.out.low SK.out)
        obtain ⟨a0, a1, a2, a3, a4, a5, a6, a7, a8, a9⟩ := hxc
        have hblr : blk < wr.heap.size := cell_lt a0
        have SB := hid (SK.out.alloc (.cells #[.int .i64 xs[k].k, .int .i64 xs[k].op, .int .i64 xs[k].v.k, .int .i64 xs[k].v.n, .string xs[k].v.s, .string ⟨xs[k].t.toArray⟩, .string ⟨xs[k].n.toArray⟩, .int .i64 0, .int .i64 0, .slice q xs[k].xs.length cx] 32))
        have HXB := hid (BG.new wr xs[k].k xs[k].op xs[k].v.k xs[k].v.n 0 0 xs[k].v.s ⟨xs[k].t.toArray⟩ ⟨xs[k].n.toArray⟩ q xs[k].xs.length cx)
        have hcell := HXB.out.cells
        have HKx := hid (HKS.out xs[k] (List.getElem_mem hx))
        have HEX := hid ex
        clear ex
        have hJ := join_le (xs.map fun x : Ex => (x.line, prE x)) (k + 1)
        by_cases hk0 : k = 0
        · subst hk0
          simp only [Nat.zero_mul, Nat.add_zero] at a0 a1 a2 a3 a4 a5 a6 a7 a8 a9
          have hJT : l1 ++ joinC ((xs.map fun x : Ex => (x.line, prE x)).take 0) ++ prE xs[0] = l1 ++ joinC ((xs.map fun x : Ex => (x.line, prE x)).take (0 + 1)) := by
            rw [join_succ _ _ (by simpa using hx), if_pos rfl]
            simp
          have HJT := hid hJT
          have hB1 : (l1 ++ joinC ((xs.map fun x : Ex => (x.line, prE x)).take 0)).length + (prE xs[0]).length ≤ 140737488351232 := by
            have h1 := congrArg List.length hJT
            have h2 := HLT.out
            simp only [List.length_append] at h1 h2 ⊢
            omega
          have T1 := hid (wsExpr HEE.out HC.out SB.out xs[0] q cx HKx.out HEX.out hB1)
          clear hJT hB1 hJ
          go_upto_region 8 with fail
          generalize hW8 : World.alloc wr _ = W8 at *
          clear hW8
          obtain ⟨e0, e1, e2, e3, e4, e5, e6, e7, e8, e9⟩ := hcell
          go_wp2_with (first
            | (go_at_call 21; with_reducible refine T1.out.mono ?_; rintro r w9 ⟨rfl, s9, _⟩; have S9 := hid s9; clear s9)
            | fail)
          go_roundw
          case rel => exact ⟨0 + 1, by omega, by go_num, _, by rw [← HJT.out]; exact S9.out⟩
          case measure => simp [RowKit.intOf]; omega
        · have hi0 : (0 : Int) < (k : Int) := by omega
          have hJT : l1 ++ joinC ((xs.map fun x : Ex => (x.line, prE x)).take k) ++ [44, 32] ++ prE xs[k] = l1 ++ joinC ((xs.map fun x : Ex => (x.line, prE x)).take (k + 1)) := by
            rw [join_succ _ _ (by simpa using hx), if_neg hk0]
            simp
          have HJT := hid hJT
          have hB0 : (l1 ++ joinC ((xs.map fun x : Ex => (x.line, prE x)).take k)).length + [(44 : UInt8), 32].length + (prE xs[k]).length ≤ 140737488351232 := by
            have h1 := congrArg List.length hJT
            have h2 := HLT.out
            simp only [List.length_append] at h1 h2 ⊢
            omega
          have HB0 := hid hB0
          clear hJT hB0 hJ
          go_upto_region 8 with fail
          generalize hW8 : World.alloc wr _ = W8 at *
          clear hW8
          have hXBl := HXB.out.lt
          have T1 := hid (SB.out.text HC.out.F1 [[44, 32]] [.string ⟨#[44, 32]⟩] rfl 1 1 rfl (by have := HB0.out; simp at this ⊢; omega) (by simp))
          rw [flat1] at T1
          go_wp2_with (first
            | (go_at_call 39; with_reducible refine T1.out.mono ?_; rintro r w8 ⟨rfl, s8, G8, c8, g8, _⟩
               have HX8 := hid ((HXB.out.chg (Chg.of_below (F := fun _ => False) (albl W8 _)) id).chg c8 (g8 _ (Or.inl (Or.inr rfl))))
               obtain ⟨e0, e1, e2, e3, e4, e5, e6, e7, e8, e9⟩ := HX8.out.cells
               have T2 := hid (wsExpr HEE.out HC.out s8 xs[k] q cx HKx.out HEX.out (by have := HB0.out; simp only [List.length_append] at this ⊢; omega))
               clear s8 c8 g8)
            | (go_at_call 21; with_reducible refine T2.out.mono ?_; rintro r w9 ⟨rfl, s9, _⟩; have S9 := hid s9; clear s9)
            | fail)
          go_roundw
          case rel => exact ⟨k + 1, by omega, by go_num, _, by rw [← HJT.out]; exact S9.out⟩
          case measure => simp [RowKit.intOf]; omega
      · have hxi : ¬ (k : Int) < (xs.length : Int) := by omega
        obtain rfl : k = xs.length := by omega
        have hT : (xs.map fun x : Ex => (x.line, prE x)).take xs.length = xs.map fun x : Ex => (x.line, prE x) := by rw [List.take_of_length_le (by simp)]
        have SE := hid SK.out
        rw [hT] at SE
        have T1 := hid (SE.out.text HC.out.F1 [[41]] [.string ⟨#[41]⟩] rfl 1 1 rfl (by have := HLT.out; simp only [List.length_append] at this ⊢; simp at this ⊢; omega) (by simp))
        rw [flat1] at T1
        clear hT SK
        go_wp2_with (first
          | (go_at_call 39; with_reducible refine T1.out.mono ?_; rintro r w8 ⟨rfl, s8, _⟩; have S8 := hid s8; clear s8)
          | fail)
        refine end0 rfl rfl ⟨rfl, ?_⟩
        have := S8.out.fin
        rw [HTOT.out]
        simpa using this
end Go.Proofs.YtfhhigablibeoaaGreatDoor
