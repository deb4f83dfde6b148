/- What inBody, isRoot and headOf of package pager answer, and bytes.Equal. No conditions but the sizes. -/
import Derived.Test.YtnecigbncggogaaPgRec
import Derived.Test.YtnecigbncggogaaDkMore
namespace Go.Proofs.Ytnecigbncggogaa
open Go.RowKit
set_option linter.unusedVariables false
set_option maxRecDepth 20000

theorem inbody_any (n p : Int) (w : World) : Calls Try.prog 57 #[.int .i64 n, .int .i64 p] w fun e w' => e = .returned (.bool (decide (2 ≤ n ∧ n < p))) ∧ w' = w := by
  by_cases h1 : 2 ≤ n
  · by_cases h2 : n < p
    · rw [show decide (2 ≤ n ∧ n < p) = true by simp [h1, h2]]
      go_enter Try.func57, Try.ntmps57
      go_wp2
      go_ret
      exact ⟨rfl, rfl⟩
    · rw [show decide (2 ≤ n ∧ n < p) = false by simp [h1, h2]]
      go_enter Try.func57, Try.ntmps57
      go_wp2
      go_ret
      exact ⟨rfl, rfl⟩
  · rw [show decide (2 ≤ n ∧ n < p) = false by simp [h1]]
    go_enter Try.func57, Try.ntmps57
    go_wp2
    go_ret
    exact ⟨rfl, rfl⟩
theorem isroot_any (n p : Int) (w : World) : Calls Try.prog 59 #[.int .i64 n, .int .i64 p] w fun e w' => e = .returned (.bool (decide (n = 0) || decide (2 ≤ n ∧ n < p))) ∧ w' = w := by
  have C := hid (inbody_any n p)
  generalize decide (2 ≤ n ∧ n < p) = q at *
  by_cases h1 : n = 0
  · subst h1
    rw [show (decide ((0 : Int) = 0) || q) = true by simp]
    go_enter Try.func59, Try.ntmps59
    go_wp2
    go_ret
    exact ⟨rfl, rfl⟩
  · have hb : (n == 0) = false := by simpa using h1
    rw [show (decide (n = 0) || q) = q by simp [h1]]
    go_enter Try.func59, Try.ntmps59
    go_wp2_with (first
      | (go_at_call 57; with_reducible refine (C.out _).mono ?_; rintro e w3 ⟨rfl, hw⟩; subst hw)
      | fail)
    go_ret
    exact ⟨rfl, rfl⟩
theorem rootOk_int (R pages : Nat) : (decide ((R : Int) = 0) || decide (2 ≤ (R : Int) ∧ (R : Int) < (pages : Int))) = rootOk R pages := by
  unfold rootOk
  rw [Bool.eq_iff_iff]
  simp only [Bool.or_eq_true, decide_eq_true_eq]
  omega
theorem equal_any (p q : Option Addr) (l m : List UInt8) (c e : Nat) (w : World) (h1 : Byts w p l) (h2 : Byts w q m) :
    Calls Try.prog 64 #[.slice p l.length c, .slice q m.length e] w fun e w' => e = .returned (.bool (l == m)) ∧ w' = w := by
  have hc1 := conv_byts c h1
  have hc2 := conv_byts e h2
  clear h1 h2
  go_enter Try.func64, Try.ntmps64
  go_wp2
  go_ret
  exact ⟨rfl, rfl⟩
theorem page_ex (G R : Nat) (w : World) (hG : G < 9223372036854775808) (hR : R < 9223372036854775808) :
    Calls Try.prog 73 #[.agg #[.int .i64 (G : Int), .int .i64 (R : Int)]] w fun e w' => ∃ q, e = .returned (.slice (some ⟨q, 0, none⟩) 512 512) ∧ Blk w' q (bcells (headPage G R)) 5 ∧ Below w.heap.size w w' ∧ w.heap.size ≤ q :=
  (page_any G R w hG hR).mono (fun e w' x => ⟨_, x.1, x.2.1, x.2.2.1, by omega⟩)
theorem sealed_ex (g off c : Nat) (l : List UInt8) (w : World) (hl : l.length = 508) (h : Byts w (some ⟨g, off, none⟩) l) :
    Calls Try.prog 58 #[.slice (some ⟨g, off, none⟩) 508 c] w fun e w' => ∃ q, e = .returned (.slice (some ⟨q, 0, none⟩) 512 512) ∧ Blk w' q (bcells (sealed l)) 5 ∧ Below w.heap.size w w' ∧ w.heap.size ≤ q :=
  (sealed_any g off c l w hl h).mono (fun e w' x => ⟨_, x.1, x.2.1, x.2.2.1, Nat.le_refl _⟩)
/-- What headOf answers. -/
def headV : Option (Nat × Nat) → Value
  | some x => .tuple #[.agg #[.int .i64 (x.1 : Int), .int .i64 (x.2 : Int)], .bool true]
  | none => .tuple #[.agg #[.int .i64 0, .int .i64 0], .bool false]
theorem ret_head {fn : Func} {R : Ending → World → Prop} {a : Act} {w : World} {g : Nat} {x y : Int} {f : Bool} (hf : fn.results = #[.cell 6 88, .tmp 7]) (h6 : a.tmps.getD 6 undef = .pointer (some ⟨g, 0, none⟩)) (h7 : a.tmps.getD 7 undef = .bool f) (hb : Blk w g [.int .i64 x, .int .i64 y] 88) (hd : a.defers = [])
    (hR : R (.returned (.tuple #[.agg #[.int .i64 x, .int .i64 y], .bool f])) w) : bodyPost Try.prog fn R .ret a w := by
  have c0 : w.cell? ⟨g, 0, none⟩ = some (.int .i64 x) := hb.cell 0
  have c1 : w.cell? ⟨g, 1, none⟩ = some (.int .i64 y) := hb.cell 1
  have h6' : a.tmps[6]?.getD undef = .pointer (some ⟨g, 0, none⟩) := by simpa using h6
  have h7' : a.tmps[7]?.getD undef = .bool f := by simpa using h7
  refine bodyPost_ret (by simp [results, hf, go_sem, h6', h7', c0, c1]) hd hR
set_option maxHeartbeats 2000000 in
theorem headof_gen (g : Nat) (b : List UInt8) (n pages : Nat) (w : World) (hb : b.length = 512) (h : Byts w (some ⟨g, 0, none⟩) b) (hg : 4611686018427387904 < genOf b) :
    Calls Try.prog 63 #[.slice (some ⟨g, 0, none⟩) 512 512, .int .i64 (n : Int), .int .i64 (pages : Int)] w fun e w' => e = .returned (headV none) ∧ Below w.heap.size w w' := by
  have hgl : g < w.heap.size := cell_lt (h.is 0 (by omega))
  have y1 := (h.alloc (.cells [Value.int .i64 0, .int .i64 0].toArray 88)).drew
  have n1 : Hid (Calls Try.prog 81 #[.slice (some ⟨g, 4, none⟩) 8 508] (w.alloc (.cells [Value.int .i64 0, .int .i64 0].toArray 88)).drew fun e w' => e = .returned (.int .u64 (genOf b : Int)) ∧ w' = (w.alloc (.cells [Value.int .i64 0, .int .i64 0].toArray 88)).drew) := by
    have := number_any g 4 508 ((b.drop 4).take 8) _ (by rw [List.length_take]; omega) (by simpa using y1.cut 4 8)
    rwa [show ((b.drop 4).take 8).length = 8 by rw [List.length_take, List.length_drop]; omega] at this
  have n2 : Hid (Calls Try.prog 81 #[.slice (some ⟨g, 12, none⟩) 4 500] (w.alloc (.cells [Value.int .i64 0, .int .i64 0].toArray 88)).drew fun e w' => e = .returned (.int .u64 (rootOf b : Int)) ∧ w' = (w.alloc (.cells [Value.int .i64 0, .int .i64 0].toArray 88)).drew) := by
    have := number_any g 12 500 ((b.drop 12).take 4) _ (by rw [List.length_take]; omega) (by simpa using y1.cut 12 4)
    rwa [show ((b.drop 12).take 4).length = 4 by rw [List.length_take, List.length_drop]; omega] at this
  have hg8 := genOf_lt b
  have hr4 := rootOf_lt b
  have r0 := (Blk.new w [.int .i64 0, .int .i64 0] 88).cell 0
  have r1 := (Blk.new w [.int .i64 0, .int .i64 0] 88).cell 1
  have HR0 := hid (Blk.new w [.int .i64 0, .int .i64 0] 88)
  have HB0 : Hid (Below w.heap.size w (w.alloc (.cells [Value.int .i64 0, .int .i64 0].toArray 88)).drew) := ((Below.refl _ _).alloc (Nat.le_refl _) _).drew
  skip
  generalize genOf b = G at *
  generalize rootOf b = R at *
  clear h y1
  go_enter Try.func63, Try.ntmps63
  go_wp2
  go_region_held_law (fun _ => True) (trivial)
    (first
      | (go_at_call 81; first | (with_reducible refine n1.out.mono ?_; rintro e w6 ⟨rfl, hw6⟩; subst hw6) | (with_reducible refine n2.out.mono ?_; rintro e w6 ⟨rfl, hw6⟩; subst hw6))
      | fail)
  all_goals go_wp2
  refine ret_head Try.results63 rfl rfl HR0.out.drew rfl ?_
  exact ⟨rfl, HB0.out⟩
set_option maxHeartbeats 2000000 in
theorem headof_slot (g : Nat) (b : List UInt8) (n pages : Nat) (w : World) (hb : b.length = 512) (h : Byts w (some ⟨g, 0, none⟩) b) (hg : ¬ 4611686018427387904 < genOf b) (hs : ((genOf b : Int) % 2 == (n : Int)) = false) :
    Calls Try.prog 63 #[.slice (some ⟨g, 0, none⟩) 512 512, .int .i64 (n : Int), .int .i64 (pages : Int)] w fun e w' => e = .returned (headV none) ∧ Below w.heap.size w w' := by
  have hgl : g < w.heap.size := cell_lt (h.is 0 (by omega))
  have y1 := (h.alloc (.cells [Value.int .i64 0, .int .i64 0].toArray 88)).drew
  have n1 : Hid (Calls Try.prog 81 #[.slice (some ⟨g, 4, none⟩) 8 508] (w.alloc (.cells [Value.int .i64 0, .int .i64 0].toArray 88)).drew fun e w' => e = .returned (.int .u64 (genOf b : Int)) ∧ w' = (w.alloc (.cells [Value.int .i64 0, .int .i64 0].toArray 88)).drew) := by
    have := number_any g 4 508 ((b.drop 4).take 8) _ (by rw [List.length_take]; omega) (by simpa using y1.cut 4 8)
    rwa [show ((b.drop 4).take 8).length = 8 by rw [List.length_take, List.length_drop]; omega] at this
  have n2 : Hid (Calls Try.prog 81 #[.slice (some ⟨g, 12, none⟩) 4 500] (w.alloc (.cells [Value.int .i64 0, .int .i64 0].toArray 88)).drew fun e w' => e = .returned (.int .u64 (rootOf b : Int)) ∧ w' = (w.alloc (.cells [Value.int .i64 0, .int .i64 0].toArray 88)).drew) := by
    have := number_any g 12 500 ((b.drop 12).take 4) _ (by rw [List.length_take]; omega) (by simpa using y1.cut 12 4)
    rwa [show ((b.drop 12).take 4).length = 4 by rw [List.length_take, List.length_drop]; omega] at this
  have hs2 : ¬ ((genOf b : Int) % 2 = (n : Int)) := by simpa using hs
  have hs3 : ((genOf b : Int) % 2 != (n : Int)) = true := by simpa using hs2
  have hg8 := genOf_lt b
  have hr4 := rootOf_lt b
  have r0 := (Blk.new w [.int .i64 0, .int .i64 0] 88).cell 0
  have r1 := (Blk.new w [.int .i64 0, .int .i64 0] 88).cell 1
  have HR0 := hid (Blk.new w [.int .i64 0, .int .i64 0] 88)
  have HB0 : Hid (Below w.heap.size w (w.alloc (.cells [Value.int .i64 0, .int .i64 0].toArray 88)).drew) := ((Below.refl _ _).alloc (Nat.le_refl _) _).drew
  have CH := hid (fun w5 => home_any (genOf b) (rootOf b) w5 (by omega))
  skip
  generalize genOf b = G at *
  generalize rootOf b = R at *
  clear h y1
  go_enter Try.func63, Try.ntmps63
  go_wp2
  go_region_held_law (fun _ => True) (trivial)
    (first
      | (go_at_call 81; first | (with_reducible refine n1.out.mono ?_; rintro e w6 ⟨rfl, hw6⟩; subst hw6) | (with_reducible refine n2.out.mono ?_; rintro e w6 ⟨rfl, hw6⟩; subst hw6))
      | fail)
  all_goals go_wp2_with (first
    | (go_at_call 72; with_reducible refine (CH.out _).mono ?_; rintro e w7 ⟨rfl, hw7⟩; unfold hcells at hw7; subst hw7)
    | fail)
  refine ret_head Try.results63 rfl rfl ((HR0.out.alloc _).alloc _).drew rfl ?_
  exact ⟨rfl, (((((Below.refl _ _).alloc (Nat.le_refl _) _).alloc (by simp) _).alloc (by simp; omega) _)).drew⟩
set_option maxHeartbeats 2000000 in
theorem headof_root (g : Nat) (b : List UInt8) (n pages : Nat) (w : World) (hb : b.length = 512) (h : Byts w (some ⟨g, 0, none⟩) b) (hg : ¬ 4611686018427387904 < genOf b) (hs : ((genOf b : Int) % 2 == (n : Int)) = true) (hq : rootOk (rootOf b) pages = false) :
    Calls Try.prog 63 #[.slice (some ⟨g, 0, none⟩) 512 512, .int .i64 (n : Int), .int .i64 (pages : Int)] w fun e w' => e = .returned (headV none) ∧ Below w.heap.size w w' := by
  have hgl : g < w.heap.size := cell_lt (h.is 0 (by omega))
  have y1 := (h.alloc (.cells [Value.int .i64 0, .int .i64 0].toArray 88)).drew
  have n1 : Hid (Calls Try.prog 81 #[.slice (some ⟨g, 4, none⟩) 8 508] (w.alloc (.cells [Value.int .i64 0, .int .i64 0].toArray 88)).drew fun e w' => e = .returned (.int .u64 (genOf b : Int)) ∧ w' = (w.alloc (.cells [Value.int .i64 0, .int .i64 0].toArray 88)).drew) := by
    have := number_any g 4 508 ((b.drop 4).take 8) _ (by rw [List.length_take]; omega) (by simpa using y1.cut 4 8)
    rwa [show ((b.drop 4).take 8).length = 8 by rw [List.length_take, List.length_drop]; omega] at this
  have n2 : Hid (Calls Try.prog 81 #[.slice (some ⟨g, 12, none⟩) 4 500] (w.alloc (.cells [Value.int .i64 0, .int .i64 0].toArray 88)).drew fun e w' => e = .returned (.int .u64 (rootOf b : Int)) ∧ w' = (w.alloc (.cells [Value.int .i64 0, .int .i64 0].toArray 88)).drew) := by
    have := number_any g 12 500 ((b.drop 12).take 4) _ (by rw [List.length_take]; omega) (by simpa using y1.cut 12 4)
    rwa [show ((b.drop 12).take 4).length = 4 by rw [List.length_take, List.length_drop]; omega] at this
  have hs2 : (genOf b : Int) % 2 = (n : Int) := by simpa using hs
  clear hs
  have hg8 := genOf_lt b
  have hr4 := rootOf_lt b
  have r0 := (Blk.new w [.int .i64 0, .int .i64 0] 88).cell 0
  have r1 := (Blk.new w [.int .i64 0, .int .i64 0] 88).cell 1
  have HR0 := hid (Blk.new w [.int .i64 0, .int .i64 0] 88)
  have HB0 : Hid (Below w.heap.size w (w.alloc (.cells [Value.int .i64 0, .int .i64 0].toArray 88)).drew) := ((Below.refl _ _).alloc (Nat.le_refl _) _).drew
  have CH := hid (fun w5 => home_any (genOf b) (rootOf b) w5 (by omega))
  have CR : Hid (∀ w5, Calls Try.prog 59 #[.int .i64 (rootOf b : Int), .int .i64 (pages : Int)] w5 fun e w' => e = .returned (.bool (rootOk (rootOf b) pages)) ∧ w' = w5) := fun w5 => by have := isroot_any (rootOf b : Int) (pages : Int) w5; rwa [rootOk_int] at this
  rw [hq] at CR
  clear hq
  skip
  generalize genOf b = G at *
  generalize rootOf b = R at *
  clear h y1
  go_enter Try.func63, Try.ntmps63
  go_wp2
  go_region_held_law (fun _ => True) (trivial)
    (first
      | (go_at_call 81; first | (with_reducible refine n1.out.mono ?_; rintro e w6 ⟨rfl, hw6⟩; subst hw6) | (with_reducible refine n2.out.mono ?_; rintro e w6 ⟨rfl, hw6⟩; subst hw6))
      | fail)
  all_goals go_wp2_with (first
    | (go_at_call 72; with_reducible refine (CH.out _).mono ?_; rintro e w7 ⟨rfl, hw7⟩; unfold hcells at hw7; subst hw7)
    | (go_at_call 59; with_reducible refine (CR.out _).mono ?_; rintro e w8 ⟨rfl, hw8⟩; subst hw8)
    | fail)
  refine ret_head Try.results63 rfl rfl ((HR0.out.alloc _).alloc _).drew rfl ?_
  exact ⟨rfl, (((((Below.refl _ _).alloc (Nat.le_refl _) _).alloc (by simp) _).alloc (by simp; omega) _)).drew⟩
set_option maxHeartbeats 2000000 in
theorem headof_page (g : Nat) (b : List UInt8) (n pages : Nat) (w : World) (hb : b.length = 512) (h : Byts w (some ⟨g, 0, none⟩) b) (hg : ¬ 4611686018427387904 < genOf b) (hs : ((genOf b : Int) % 2 == (n : Int)) = true) (hq : rootOk (rootOf b) pages = true) (he : (headPage (genOf b) (rootOf b) == b) = false) :
    Calls Try.prog 63 #[.slice (some ⟨g, 0, none⟩) 512 512, .int .i64 (n : Int), .int .i64 (pages : Int)] w fun e w' => e = .returned (headV none) ∧ Below w.heap.size w w' := by
  have hgl : g < w.heap.size := cell_lt (h.is 0 (by omega))
  have y1 := (h.alloc (.cells [Value.int .i64 0, .int .i64 0].toArray 88)).drew
  have n1 : Hid (Calls Try.prog 81 #[.slice (some ⟨g, 4, none⟩) 8 508] (w.alloc (.cells [Value.int .i64 0, .int .i64 0].toArray 88)).drew fun e w' => e = .returned (.int .u64 (genOf b : Int)) ∧ w' = (w.alloc (.cells [Value.int .i64 0, .int .i64 0].toArray 88)).drew) := by
    have := number_any g 4 508 ((b.drop 4).take 8) _ (by rw [List.length_take]; omega) (by simpa using y1.cut 4 8)
    rwa [show ((b.drop 4).take 8).length = 8 by rw [List.length_take, List.length_drop]; omega] at this
  have n2 : Hid (Calls Try.prog 81 #[.slice (some ⟨g, 12, none⟩) 4 500] (w.alloc (.cells [Value.int .i64 0, .int .i64 0].toArray 88)).drew fun e w' => e = .returned (.int .u64 (rootOf b : Int)) ∧ w' = (w.alloc (.cells [Value.int .i64 0, .int .i64 0].toArray 88)).drew) := by
    have := number_any g 12 500 ((b.drop 12).take 4) _ (by rw [List.length_take]; omega) (by simpa using y1.cut 12 4)
    rwa [show ((b.drop 12).take 4).length = 4 by rw [List.length_take, List.length_drop]; omega] at this
  have hs2 : (genOf b : Int) % 2 = (n : Int) := by simpa using hs
  clear hs
  have hg8 := genOf_lt b
  have hr4 := rootOf_lt b
  have r0 := (Blk.new w [.int .i64 0, .int .i64 0] 88).cell 0
  have r1 := (Blk.new w [.int .i64 0, .int .i64 0] 88).cell 1
  have HR0 := hid (Blk.new w [.int .i64 0, .int .i64 0] 88)
  have HB0 : Hid (Below w.heap.size w (w.alloc (.cells [Value.int .i64 0, .int .i64 0].toArray 88)).drew) := ((Below.refl _ _).alloc (Nat.le_refl _) _).drew
  have CH := hid (fun w5 => home_any (genOf b) (rootOf b) w5 (by omega))
  have CR : Hid (∀ w5, Calls Try.prog 59 #[.int .i64 (rootOf b : Int), .int .i64 (pages : Int)] w5 fun e w' => e = .returned (.bool (rootOk (rootOf b) pages)) ∧ w' = w5) := fun w5 => by have := isroot_any (rootOf b : Int) (pages : Int) w5; rwa [rootOk_int] at this
  rw [hq] at CR
  have CP := hid (fun w5 => page_ex (genOf b) (rootOf b) w5 (by omega) (by omega))
  have CE : Hid (∀ (w5 : World) (g5 : Nat), Blk w5 g5 (bcells (headPage (genOf b) (rootOf b))) 5 → Byts w5 (some ⟨g, 0, none⟩) b → Calls Try.prog 64 #[.slice (some ⟨g5, 0, none⟩) 512 512, .slice (some ⟨g, 0, none⟩) 512 512] w5 fun e w' => e = .returned (.bool (headPage (genOf b) (rootOf b) == b)) ∧ w' = w5) := fun w5 g5 h5 h6 => by
    have := equal_any (some ⟨g5, 0, none⟩) (some ⟨g, 0, none⟩) (headPage (genOf b) (rootOf b)) b 512 512 w5 h5.byts' h6
    rwa [headPage_len, hb] at this
  rw [he] at CE
  have HSx : Hid (((((w.alloc (.cells [Value.int .i64 0, .int .i64 0].toArray 88)).alloc (.cells [Value.int .i64 (genOf b : Int), .int .i64 (rootOf b : Int)].toArray 88)).alloc (.cells [Value.int .i64 (genOf b : Int), .int .i64 (rootOf b : Int)].toArray 88)).drew).heap.size = w.heap.size + 3) := by show _ = _; simp [World.drew]
  have HBx : Hid (Below w.heap.size w (((w.alloc (.cells [Value.int .i64 0, .int .i64 0].toArray 88)).alloc (.cells [Value.int .i64 (genOf b : Int), .int .i64 (rootOf b : Int)].toArray 88)).alloc (.cells [Value.int .i64 (genOf b : Int), .int .i64 (rootOf b : Int)].toArray 88)).drew) := (((((Below.refl _ _).alloc (Nat.le_refl _) _).alloc (by simp) _).alloc (by simp; omega) _)).drew
  have HRx : Hid (Blk (((w.alloc (.cells [Value.int .i64 0, .int .i64 0].toArray 88)).alloc (.cells [Value.int .i64 (genOf b : Int), .int .i64 (rootOf b : Int)].toArray 88)).alloc (.cells [Value.int .i64 (genOf b : Int), .int .i64 (rootOf b : Int)].toArray 88)).drew w.heap.size [.int .i64 0, .int .i64 0] 88) := ((HR0.out.alloc _).alloc _).drew
  have HHx0 := Blk.new (w.alloc (.cells [Value.int .i64 0, .int .i64 0].toArray 88)) [.int .i64 (genOf b : Int), .int .i64 (rootOf b : Int)] 88
  rw [show (w.alloc (.cells [Value.int .i64 0, .int .i64 0].toArray 88)).heap.size = w.heap.size + 1 by simp] at HHx0
  have HHx : Hid (Blk (((w.alloc (.cells [Value.int .i64 0, .int .i64 0].toArray 88)).alloc (.cells [Value.int .i64 (genOf b : Int), .int .i64 (rootOf b : Int)].toArray 88)).alloc (.cells [Value.int .i64 (genOf b : Int), .int .i64 (rootOf b : Int)].toArray 88)).drew (w.heap.size + 1) [.int .i64 (genOf b : Int), .int .i64 (rootOf b : Int)] 88) := (HHx0.alloc _).drew
  clear HHx0
  have HY := hid h
  clear he
  clear hq
  generalize headPage (genOf b) (rootOf b) = X at *
  generalize genOf b = G at *
  generalize rootOf b = R at *
  clear h y1
  go_enter Try.func63, Try.ntmps63
  go_wp2
  go_region_held_law (fun _ => True) (trivial)
    (first
      | (go_at_call 81; first | (with_reducible refine n1.out.mono ?_; rintro e w6 ⟨rfl, hw6⟩; subst hw6) | (with_reducible refine n2.out.mono ?_; rintro e w6 ⟨rfl, hw6⟩; subst hw6))
      | fail)
  all_goals go_wp2_with (first
    | (go_at_call 72; with_reducible refine (CH.out _).mono ?_; rintro e w7 ⟨rfl, hw7⟩; unfold hcells at hw7; subst hw7)
    | (go_at_call 59; with_reducible refine (CR.out _).mono ?_; rintro e w8 ⟨rfl, hw8⟩; subst hw8)
    | (go_at_call 73; go_loud (with_reducible refine (CP.out _).mono ?_); rintro e w9 ⟨g9, rfl, B9, L9, S9⟩; have HB9 := hid B9; have HL9 := hid L9; have HY9 := hid (HY.out.below (w' := w9) (HBx.out.trans (L9.mono (by rw [HSx.out]; omega)))); have HR9 := hid (HRx.out.below L9 (by rw [HSx.out]; omega)); have HH9 := hid (HHx.out.below L9 (by rw [HSx.out]; omega)); have q90 := HR9.out.cell 0; have q91 := HR9.out.cell 1; have q92 := HH9.out.cell 0; have q93 := HH9.out.cell 1; have q94 := HR9.out.frozen 0; have q95 := HR9.out.frozen 1; clear B9 L9 S9)
    | (go_at_call 64; go_loud (with_reducible refine (CE.out _ _ HB9.out HY9.out).mono ?_); rintro e w10 ⟨rfl, hw10⟩; subst hw10)
    | fail)
  refine ret_head Try.results63 rfl rfl ((HR9.out.set (i := 0) _).set (i := 1) _) rfl ?_
  exact ⟨rfl, ((HBx.out.trans (HL9.out.mono (by rw [HSx.out]; omega))).setCell (Nat.le_refl _) _).setCell (Nat.le_refl _) _⟩
set_option maxHeartbeats 2000000 in
theorem headof_is (g : Nat) (b : List UInt8) (n pages : Nat) (w : World) (hb : b.length = 512) (h : Byts w (some ⟨g, 0, none⟩) b) (hg : ¬ 4611686018427387904 < genOf b) (hs : ((genOf b : Int) % 2 == (n : Int)) = true) (hq : rootOk (rootOf b) pages = true) (he : (headPage (genOf b) (rootOf b) == b) = true) :
    Calls Try.prog 63 #[.slice (some ⟨g, 0, none⟩) 512 512, .int .i64 (n : Int), .int .i64 (pages : Int)] w fun e w' => e = .returned (headV (some (genOf b, rootOf b))) ∧ Below w.heap.size w w' := by
  have hgl : g < w.heap.size := cell_lt (h.is 0 (by omega))
  have y1 := (h.alloc (.cells [Value.int .i64 0, .int .i64 0].toArray 88)).drew
  have n1 : Hid (Calls Try.prog 81 #[.slice (some ⟨g, 4, none⟩) 8 508] (w.alloc (.cells [Value.int .i64 0, .int .i64 0].toArray 88)).drew fun e w' => e = .returned (.int .u64 (genOf b : Int)) ∧ w' = (w.alloc (.cells [Value.int .i64 0, .int .i64 0].toArray 88)).drew) := by
    have := number_any g 4 508 ((b.drop 4).take 8) _ (by rw [List.length_take]; omega) (by simpa using y1.cut 4 8)
    rwa [show ((b.drop 4).take 8).length = 8 by rw [List.length_take, List.length_drop]; omega] at this
  have n2 : Hid (Calls Try.prog 81 #[.slice (some ⟨g, 12, none⟩) 4 500] (w.alloc (.cells [Value.int .i64 0, .int .i64 0].toArray 88)).drew fun e w' => e = .returned (.int .u64 (rootOf b : Int)) ∧ w' = (w.alloc (.cells [Value.int .i64 0, .int .i64 0].toArray 88)).drew) := by
    have := number_any g 12 500 ((b.drop 12).take 4) _ (by rw [List.length_take]; omega) (by simpa using y1.cut 12 4)
    rwa [show ((b.drop 12).take 4).length = 4 by rw [List.length_take, List.length_drop]; omega] at this
  have hs2 : (genOf b : Int) % 2 = (n : Int) := by simpa using hs
  clear hs
  have hg8 := genOf_lt b
  have hr4 := rootOf_lt b
  have r0 := (Blk.new w [.int .i64 0, .int .i64 0] 88).cell 0
  have r1 := (Blk.new w [.int .i64 0, .int .i64 0] 88).cell 1
  have HR0 := hid (Blk.new w [.int .i64 0, .int .i64 0] 88)
  have HB0 : Hid (Below w.heap.size w (w.alloc (.cells [Value.int .i64 0, .int .i64 0].toArray 88)).drew) := ((Below.refl _ _).alloc (Nat.le_refl _) _).drew
  have CH := hid (fun w5 => home_any (genOf b) (rootOf b) w5 (by omega))
  have CR : Hid (∀ w5, Calls Try.prog 59 #[.int .i64 (rootOf b : Int), .int .i64 (pages : Int)] w5 fun e w' => e = .returned (.bool (rootOk (rootOf b) pages)) ∧ w' = w5) := fun w5 => by have := isroot_any (rootOf b : Int) (pages : Int) w5; rwa [rootOk_int] at this
  rw [hq] at CR
  have CP := hid (fun w5 => page_ex (genOf b) (rootOf b) w5 (by omega) (by omega))
  have CE : Hid (∀ (w5 : World) (g5 : Nat), Blk w5 g5 (bcells (headPage (genOf b) (rootOf b))) 5 → Byts w5 (some ⟨g, 0, none⟩) b → Calls Try.prog 64 #[.slice (some ⟨g5, 0, none⟩) 512 512, .slice (some ⟨g, 0, none⟩) 512 512] w5 fun e w' => e = .returned (.bool (headPage (genOf b) (rootOf b) == b)) ∧ w' = w5) := fun w5 g5 h5 h6 => by
    have := equal_any (some ⟨g5, 0, none⟩) (some ⟨g, 0, none⟩) (headPage (genOf b) (rootOf b)) b 512 512 w5 h5.byts' h6
    rwa [headPage_len, hb] at this
  rw [he] at CE
  have HSx : Hid (((((w.alloc (.cells [Value.int .i64 0, .int .i64 0].toArray 88)).alloc (.cells [Value.int .i64 (genOf b : Int), .int .i64 (rootOf b : Int)].toArray 88)).alloc (.cells [Value.int .i64 (genOf b : Int), .int .i64 (rootOf b : Int)].toArray 88)).drew).heap.size = w.heap.size + 3) := by show _ = _; simp [World.drew]
  have HBx : Hid (Below w.heap.size w (((w.alloc (.cells [Value.int .i64 0, .int .i64 0].toArray 88)).alloc (.cells [Value.int .i64 (genOf b : Int), .int .i64 (rootOf b : Int)].toArray 88)).alloc (.cells [Value.int .i64 (genOf b : Int), .int .i64 (rootOf b : Int)].toArray 88)).drew) := (((((Below.refl _ _).alloc (Nat.le_refl _) _).alloc (by simp) _).alloc (by simp; omega) _)).drew
  have HRx : Hid (Blk (((w.alloc (.cells [Value.int .i64 0, .int .i64 0].toArray 88)).alloc (.cells [Value.int .i64 (genOf b : Int), .int .i64 (rootOf b : Int)].toArray 88)).alloc (.cells [Value.int .i64 (genOf b : Int), .int .i64 (rootOf b : Int)].toArray 88)).drew w.heap.size [.int .i64 0, .int .i64 0] 88) := ((HR0.out.alloc _).alloc _).drew
  have HHx0 := Blk.new (w.alloc (.cells [Value.int .i64 0, .int .i64 0].toArray 88)) [.int .i64 (genOf b : Int), .int .i64 (rootOf b : Int)] 88
  rw [show (w.alloc (.cells [Value.int .i64 0, .int .i64 0].toArray 88)).heap.size = w.heap.size + 1 by simp] at HHx0
  have HHx : Hid (Blk (((w.alloc (.cells [Value.int .i64 0, .int .i64 0].toArray 88)).alloc (.cells [Value.int .i64 (genOf b : Int), .int .i64 (rootOf b : Int)].toArray 88)).alloc (.cells [Value.int .i64 (genOf b : Int), .int .i64 (rootOf b : Int)].toArray 88)).drew (w.heap.size + 1) [.int .i64 (genOf b : Int), .int .i64 (rootOf b : Int)] 88) := (HHx0.alloc _).drew
  clear HHx0
  have HY := hid h
  clear he
  clear hq
  generalize headPage (genOf b) (rootOf b) = X at *
  generalize genOf b = G at *
  generalize rootOf b = R at *
  clear h y1
  go_enter Try.func63, Try.ntmps63
  go_wp2
  go_region_held_law (fun _ => True) (trivial)
    (first
      | (go_at_call 81; first | (with_reducible refine n1.out.mono ?_; rintro e w6 ⟨rfl, hw6⟩; subst hw6) | (with_reducible refine n2.out.mono ?_; rintro e w6 ⟨rfl, hw6⟩; subst hw6))
      | fail)
  all_goals go_wp2_with (first
    | (go_at_call 72; with_reducible refine (CH.out _).mono ?_; rintro e w7 ⟨rfl, hw7⟩; unfold hcells at hw7; subst hw7)
    | (go_at_call 59; with_reducible refine (CR.out _).mono ?_; rintro e w8 ⟨rfl, hw8⟩; subst hw8)
    | (go_at_call 73; go_loud (with_reducible refine (CP.out _).mono ?_); rintro e w9 ⟨g9, rfl, B9, L9, S9⟩; have HB9 := hid B9; have HL9 := hid L9; have HY9 := hid (HY.out.below (w' := w9) (HBx.out.trans (L9.mono (by rw [HSx.out]; omega)))); have HR9 := hid (HRx.out.below L9 (by rw [HSx.out]; omega)); have HH9 := hid (HHx.out.below L9 (by rw [HSx.out]; omega)); have q90 := HR9.out.cell 0; have q91 := HR9.out.cell 1; have q92 := HH9.out.cell 0; have q93 := HH9.out.cell 1; have q94 := HR9.out.frozen 0; have q95 := HR9.out.frozen 1; clear B9 L9 S9)
    | (go_at_call 64; go_loud (with_reducible refine (CE.out _ _ HB9.out HY9.out).mono ?_); rintro e w10 ⟨rfl, hw10⟩; subst hw10)
    | fail)
  refine ret_head Try.results63 rfl rfl ((HR9.out.set (i := 0) _).set (i := 1) _) rfl ?_
  exact ⟨rfl, ((HBx.out.trans (HL9.out.mono (by rw [HSx.out]; omega))).setCell (Nat.le_refl _) _).setCell (Nat.le_refl _) _⟩
theorem headof_any (g : Nat) (b : List UInt8) (n pages : Nat) (w : World) (hb : b.length = 512) (h : Byts w (some ⟨g, 0, none⟩) b) :
    Calls Try.prog 63 #[.slice (some ⟨g, 0, none⟩) 512 512, .int .i64 (n : Int), .int .i64 (pages : Int)] w fun e w' => e = .returned (headV (readHead b n pages)) ∧ Below w.heap.size w w' := by
  unfold readHead isHead
  by_cases hg : 4611686018427387904 < genOf b
  · rw [show decide (genOf b ≤ 4611686018427387904) = false by simp; omega]
    simp only [Bool.false_and, Bool.false_eq_true, if_false]
    exact headof_gen g b n pages w hb h hg
  · rw [show decide (genOf b ≤ 4611686018427387904) = true by simp; omega]
    by_cases hs : genOf b % 2 = n
    · have hs' : ((genOf b : Int) % 2 == (n : Int)) = true := by rw [beq_iff_eq]; omega
      rw [show decide (genOf b % 2 = n) = true by simp [hs]]
      cases hq : rootOk (rootOf b) pages
      · simp only [Bool.and_false, Bool.false_and, Bool.false_eq_true, if_false]
        exact headof_root g b n pages w hb h hg hs' hq
      · cases he : (headPage (genOf b) (rootOf b) == b)
        · simp only [Bool.and_false, Bool.false_eq_true, if_false]
          exact headof_page g b n pages w hb h hg hs' hq he
        · simp only [Bool.and_self, if_true]
          exact headof_is g b n pages w hb h hg hs' hq he
    · have hs' : ((genOf b : Int) % 2 == (n : Int)) = false := by rw [beq_eq_false_iff_ne]; omega
      rw [show decide (genOf b % 2 = n) = false by simp [hs]]
      simp only [Bool.and_false, Bool.false_and, Bool.false_eq_true, if_false]
      exact headof_slot g b n pages w hb h hg hs'
end Go.Proofs.Ytnecigbncggogaa
