/- What operatorOf and callOf of package expr do. Conditions: none. What fits, lineOf and nullTest of package expr do. Conditions: the tables lie in memory as their text lays them. What lineOf and column of package expr do. Conditions: the tables lie in memory as their text lays them; the bytes lie within the reach. -/
import Derived.Test.YtblkhlhhlalbkaaGreatDoorXA
import Derived.Test.YtblkhlhhlalbkaaGreatDoorXI
import Derived.Test.YtblkhlhhlalbkaaGreatDoorVL
import Derived.Test.YtblkhlhhlalbkaaGreatDoorXP
namespace Go.Proofs.YtblkhlhhlalbkaaGreatDoor
open Go.RowKit Go.Lib Go.Sort
set_option linter.unusedVariables false
set_option maxRecDepth 20000

theorem below_put5b {w w2 : World} {g : Nat} {a b c d e : Value} (h : Below w.heap.size w w2) (hg : w.heap.size ≤ g) : Below w.heap.size w (((((w2.setCell ⟨g, 0, none⟩ a).setCell ⟨g, 1, none⟩ b).setCell ⟨g, 2, none⟩ c).setCell ⟨g, 3, none⟩ d).setCell ⟨g, 4, none⟩ e) :=
  ((((h.setCell (p := ⟨g, 0, none⟩) hg _).setCell (p := ⟨g, 1, none⟩) hg _).setCell (p := ⟨g, 2, none⟩) hg _).setCell (p := ⟨g, 3, none⟩) hg _).setCell (p := ⟨g, 4, none⟩) hg _
set_option maxHeartbeats 8000000 in
theorem operatorOf_any (k0 o0 vk vn j0 j1 : Int) (vs ts ns : ByteArray) (p0 : Option Addr) (n0 c0 : Nat) (w : World) (h : Gl w) :
    Calls Tryz.prog 99 #[.agg #[.int .i64 k0, .int .i64 o0, .int .i64 vk, .int .i64 vn, .string vs, .string ts, .string ns, .int .i64 j0, .int .i64 j1, .slice p0 n0 c0]] w fun e w' => e = .returned (.tuple #[oprO (opOf k0 o0), .bool (opOf k0 o0).isSome]) ∧ Below w.heap.size w w' := by
  obtain ⟨sl, hsl⟩ : ∃ sl : Value, sl = .slice p0 n0 c0 := ⟨_, rfl⟩
  have hg : w.heap[0]? = some (.cells oprT 172 (0, 0)) := h.1
  have hgl := (Array.getElem?_eq_some_iff.1 hg).1
  obtain ⟨hs0, e1, e2⟩ := alc2 w (.cells #[.int .i64 k0, .int .i64 o0, .int .i64 vk, .int .i64 vn, .string vs, .string ts, .string ns, .int .i64 j0, .int .i64 j1, .slice p0 n0 c0] 26) (.cells #[.int .i64 0, .int .i64 0, .int .i64 0, .string ⟨#[]⟩, .int .i64 0] 132)
  have B0 : Below w.heap.size w ((w.alloc (.cells #[.int .i64 k0, .int .i64 o0, .int .i64 vk, .int .i64 vn, .string vs, .string ts, .string ns, .int .i64 j0, .int .i64 j1, .slice p0 n0 c0] 26)).alloc (.cells #[.int .i64 0, .int .i64 0, .int .i64 0, .string ⟨#[]⟩, .int .i64 0] 132)) := ((Below.refl _ _).alloc (Nat.le_refl _) _).alloc (by simp) _
  have hR := hid (show ResO ((w.alloc (.cells #[.int .i64 k0, .int .i64 o0, .int .i64 vk, .int .i64 vn, .string vs, .string ts, .string ns, .int .i64 j0, .int .i64 j1, .slice p0 n0 c0] 26)).alloc (.cells #[.int .i64 0, .int .i64 0, .int .i64 0, .string ⟨#[]⟩, .int .i64 0] 132)) (w.heap.size + 1) from e2)
  have hE := hid e1
  have hg1 := hid ((B0.block 0 hgl).trans hg)
  have HB0 := hid B0
  have hT := hid oprT_at
  clear h B0 hg e1 e2 hsl hgl
  go_enter Tryz.func99, Tryz.ntmps99
  go_upto_region 1 with fail
  refine wp_region_lit ?_
  refine wpList_load_row rfl 172 (.global 0) rfl 0 rfl 172 oprT (0, 0) _ hg1.out Tryz.underlying172 rfl oprT_size ?_
  generalize oprT = V at *
  generalize hW : World.alloc _ (.cells #[.int .i64 0, .int .i64 0, .int .i64 0, .string ⟨#[]⟩, .int .i64 0] 132) = W at *
  clear hW
  go_wp2_with fail
  go_loopw [7] (fun i wr => ∃ k : Nat, k ≤ 16 ∧ i = .int .i64 (k : Int) ∧ Below (w.heap.size + 2) W wr ∧ ∀ j (hj : j < oprs.length), j < k → (oprs[j].kind == k0 && oprs[j].op == o0) = false) (fun i _ => 16 - (RowKit.intOf i).toNat)
  case atStart => exact ⟨0, by omega, rfl, Below.refl _ _, fun j hj h => absurd h (Nat.not_lt_zero _)⟩
  case round =>
    obtain ⟨k, hk, rfl, hbw, hno⟩ := hrel
    have HB := hid hbw
    have HN := hid hno
    have hsz := hbw.size
    have hlt2 : w.heap.size + 1 < wr.heap.size := by omega
    have hlt3 : w.heap.size < wr.heap.size := by omega
    have hEr := (hbw.block w.heap.size (by omega)).trans hE.out
    have x0 : wr.cell? ⟨w.heap.size, 0, none⟩ = some (.int .i64 k0) := by rw [Lib.cell_of_heap hEr]; rfl
    have x1 : wr.cell? ⟨w.heap.size, 1, none⟩ = some (.int .i64 o0) := by rw [Lib.cell_of_heap hEr]; rfl
    obtain ⟨z0, z1, z2, z3, z4⟩ := (hR.out.below HB.out (Nat.lt_succ_self _)).cells
    have zf := (hR.out.below HB.out (Nat.lt_succ_self _)).frozen
    clear hbw hno hEr
    by_cases hk16 : k < 16
    · have hi := fun w => hT.out w k hk16
      have hlt : (k : Int) < 16 := by omega
      have e0 : oprs[k]? = some oprs[k] := List.getElem?_eq_getElem (by exact hk16)
      rw [e0] at hi
      have HF := hid (fun hp => find_take (p := fun o => o.kind == k0 && o.op == o0) oprs k (by exact hk16) HN.out hp)
      have HN2 := hid (fun (hp : (oprs[k].kind == k0 && oprs[k].op == o0) = false) => (show ∀ j (hj : j < oprs.length), j < k + 1 → (oprs[j].kind == k0 && oprs[j].op == o0) = false from fun j hj h => by
        by_cases e : j = k
        · subst e; exact hp
        · exact HN.out j hj (by omega)))
      clear e0 HN
      have eop : opOf k0 o0 = oprs.find? (fun o => o.kind == k0 && o.op == o0) := rfl
      rw [← eop] at HF
      generalize oprs[k] = o at *
      have HBw := hid (HB0.out.trans (HB.out.mono (by omega)))
      unfold oprO at hi
      simp only [] at hi
      by_cases h1 : o.kind = k0
      · by_cases h2 : o.op = o0
        · have HF2 := hid (HF.out (by simp [h1, h2]))
          go_wp2_with fail
          rw [HF2.out]
          refine bodyPost_ret (by simp [results, Tryz.results99, go_sem, z0, z1, z2, z3, z4, hlt2]; try rfl) rfl ?_
          refine ⟨?_, (below_put5b HBw.out (Nat.le_succ _)).alloc (by simp [World.setCell]; omega) _⟩
          subst h1
          subst h2
          rfl
        · have HN3 := hid (HN2.out (by simp [h2]))
          go_wp2_with fail
          go_roundw
          case rel => exact ⟨k + 1, by omega, by go_num, HB.out.alloc (by omega) _, HN3.out⟩
          case measure => simp [RowKit.intOf]; omega
      · have HN3 := hid (HN2.out (by simp [h1]))
        go_wp2_with fail
        go_roundw
        case rel => exact ⟨k + 1, by omega, by go_num, HB.out.alloc (by omega) _, HN3.out⟩
        case measure => simp [RowKit.intOf]; omega
    · have hlt : ¬ (k : Int) < 16 := by omega
      have HF := hid (show opOf k0 o0 = none from find_none _ (fun j hj => HN.out j hj (by have : oprs.length = 16 := rfl; omega)))
      go_wp2_with fail
      rw [HF.out]
      refine bodyPost_ret (by simp [results, Tryz.results99, go_sem, z0, z1, z2, z3, z4]; try rfl) rfl ?_
      exact ⟨rfl, below_put5b (HB0.out.trans (HB.out.mono (by omega))) (Nat.le_succ _)⟩
theorem below_put4b {w w2 : World} {g : Nat} {a b c d : Value} (h : Below w.heap.size w w2) (hg : w.heap.size ≤ g) : Below w.heap.size w ((((w2.setCell ⟨g, 0, none⟩ a).setCell ⟨g, 1, none⟩ b).setCell ⟨g, 2, none⟩ c).setCell ⟨g, 3, none⟩ d) :=
  (((h.setCell (p := ⟨g, 0, none⟩) hg _).setCell (p := ⟨g, 1, none⟩) hg _).setCell (p := ⟨g, 2, none⟩) hg _).setCell (p := ⟨g, 3, none⟩) hg _
set_option maxHeartbeats 8000000 in
theorem callOf_any (k0 o0 vk vn j0 j1 : Int) (vs ts ns : ByteArray) (p0 : Option Addr) (n0 c0 : Nat) (w : World) (h : Gl w) :
    Calls Tryz.prog 147 #[.agg #[.int .i64 k0, .int .i64 o0, .int .i64 vk, .int .i64 vn, .string vs, .string ts, .string ns, .int .i64 j0, .int .i64 j1, .slice p0 n0 c0]] w fun e w' => e = .returned (.tuple #[calO (calOf k0 o0), .bool (calOf k0 o0).isSome]) ∧ Below w.heap.size w w' := by
  obtain ⟨sl, hsl⟩ : ∃ sl : Value, sl = .slice p0 n0 c0 := ⟨_, rfl⟩
  have hg : w.heap[1]? = some (.cells calTb 185 (0, 0)) := h.2
  have hgl := (Array.getElem?_eq_some_iff.1 hg).1
  obtain ⟨hs0, e1, e2⟩ := alc2 w (.cells #[.int .i64 k0, .int .i64 o0, .int .i64 vk, .int .i64 vn, .string vs, .string ts, .string ns, .int .i64 j0, .int .i64 j1, .slice p0 n0 c0] 26) (.cells #[.int .i64 0, .int .i64 0, .string ⟨#[]⟩, .int .i64 0] 161)
  have B0 : Below w.heap.size w ((w.alloc (.cells #[.int .i64 k0, .int .i64 o0, .int .i64 vk, .int .i64 vn, .string vs, .string ts, .string ns, .int .i64 j0, .int .i64 j1, .slice p0 n0 c0] 26)).alloc (.cells #[.int .i64 0, .int .i64 0, .string ⟨#[]⟩, .int .i64 0] 161)) := ((Below.refl _ _).alloc (Nat.le_refl _) _).alloc (by simp) _
  have hR := hid (show ResC ((w.alloc (.cells #[.int .i64 k0, .int .i64 o0, .int .i64 vk, .int .i64 vn, .string vs, .string ts, .string ns, .int .i64 j0, .int .i64 j1, .slice p0 n0 c0] 26)).alloc (.cells #[.int .i64 0, .int .i64 0, .string ⟨#[]⟩, .int .i64 0] 161)) (w.heap.size + 1) from e2)
  have hE := hid e1
  have hg1 := hid ((B0.block 1 hgl).trans hg)
  have HB0 := hid B0
  have hT := hid calT_at
  clear h B0 hg e1 e2 hsl hgl
  go_enter Tryz.func147, Tryz.ntmps147
  go_upto_region 1 with fail
  refine wp_region_lit ?_
  refine wpList_load_row rfl 185 (.global 1) rfl 1 rfl 185 calTb (0, 0) _ hg1.out Tryz.underlying185 rfl calT_size ?_
  generalize calTb = V at *
  generalize hW : World.alloc _ (.cells #[.int .i64 0, .int .i64 0, .string ⟨#[]⟩, .int .i64 0] 161) = W at *
  clear hW
  go_wp2_with fail
  go_loopw [7] (fun i wr => ∃ k : Nat, k ≤ 10 ∧ i = .int .i64 (k : Int) ∧ Below (w.heap.size + 2) W wr ∧ ∀ j (hj : j < cals.length), j < k → (cals[j].kind == k0 && cals[j].op == o0) = false) (fun i _ => 10 - (RowKit.intOf i).toNat)
  case atStart => exact ⟨0, by omega, rfl, Below.refl _ _, fun j hj h => absurd h (Nat.not_lt_zero _)⟩
  case round =>
    obtain ⟨k, hk, rfl, hbw, hno⟩ := hrel
    have HB := hid hbw
    have HN := hid hno
    have hsz := hbw.size
    have hlt2 : w.heap.size + 1 < wr.heap.size := by omega
    have hlt3 : w.heap.size < wr.heap.size := by omega
    have hEr := (hbw.block w.heap.size (by omega)).trans hE.out
    have x0 : wr.cell? ⟨w.heap.size, 0, none⟩ = some (.int .i64 k0) := by rw [Lib.cell_of_heap hEr]; rfl
    have x1 : wr.cell? ⟨w.heap.size, 1, none⟩ = some (.int .i64 o0) := by rw [Lib.cell_of_heap hEr]; rfl
    obtain ⟨z0, z1, z2, z3⟩ := (hR.out.below HB.out (Nat.lt_succ_self _)).cells
    have zf := (hR.out.below HB.out (Nat.lt_succ_self _)).frozen
    clear hbw hno hEr
    by_cases hk16 : k < 10
    · have hi := fun w => hT.out w k hk16
      have hlt : (k : Int) < 10 := by omega
      have e0 : cals[k]? = some cals[k] := List.getElem?_eq_getElem (by exact hk16)
      rw [e0] at hi
      have HF := hid (fun hp => cfind_take (p := fun o => o.kind == k0 && o.op == o0) cals k (by exact hk16) HN.out hp)
      have HN2 := hid (fun (hp : (cals[k].kind == k0 && cals[k].op == o0) = false) => (show ∀ j (hj : j < cals.length), j < k + 1 → (cals[j].kind == k0 && cals[j].op == o0) = false from fun j hj h => by
        by_cases e : j = k
        · subst e; exact hp
        · exact HN.out j hj (by omega)))
      clear e0 HN
      have eop : calOf k0 o0 = cals.find? (fun o => o.kind == k0 && o.op == o0) := rfl
      rw [← eop] at HF
      generalize cals[k] = o at *
      have HBw := hid (HB0.out.trans (HB.out.mono (by omega)))
      unfold calO at hi
      simp only [] at hi
      by_cases h1 : o.kind = k0
      · by_cases h2 : o.op = o0
        · have HF2 := hid (HF.out (by simp [h1, h2]))
          go_wp2_with fail
          rw [HF2.out]
          refine bodyPost_ret (by simp [results, Tryz.results147, go_sem, z0, z1, z2, z3, hlt2]; try rfl) rfl ?_
          refine ⟨?_, (below_put4b HBw.out (Nat.le_succ _)).alloc (by simp [World.setCell]; omega) _⟩
          subst h1
          subst h2
          rfl
        · have HN3 := hid (HN2.out (by simp [h2]))
          go_wp2_with fail
          go_roundw
          case rel => exact ⟨k + 1, by omega, by go_num, HB.out.alloc (by omega) _, HN3.out⟩
          case measure => simp [RowKit.intOf]; omega
      · have HN3 := hid (HN2.out (by simp [h1]))
        go_wp2_with fail
        go_roundw
        case rel => exact ⟨k + 1, by omega, by go_num, HB.out.alloc (by omega) _, HN3.out⟩
        case measure => simp [RowKit.intOf]; omega
    · have hlt : ¬ (k : Int) < 10 := by omega
      have HF := hid (show calOf k0 o0 = none from cfind_none _ (fun j hj => HN.out j hj (by have : cals.length = 10 := rfl; omega)))
      go_wp2_with fail
      rw [HF.out]
      refine bodyPost_ret (by simp [results, Tryz.results147, go_sem, z0, z1, z2, z3]; try rfl) rfl ?_
      exact ⟨rfl, below_put4b (HB0.out.trans (HB.out.mono (by omega))) (Nat.le_succ _)⟩
end Go.Proofs.YtblkhlhhlalbkaaGreatDoor
namespace Go.Proofs.YtblkhlhhlalbkaaGreatDoor
open Go.RowKit Go.Lib Go.Sort
set_option linter.unusedVariables false
set_option maxRecDepth 20000

theorem oprO_frm (r : Option Opr) : ∃ k o t s n, oprO r = .agg #[.int .i64 k, .int .i64 o, .int .i64 t, .string s, .int .i64 n] := by
  cases r with
  | none => exact ⟨_, _, _, _, _, rfl⟩
  | some o => exact ⟨_, _, _, _, _, rfl⟩
theorem calO_form (r : Option Cal) : ∃ k o s n, calO r = .agg #[.int .i64 k, .int .i64 o, .string s, .int .i64 n] := by
  cases r with
  | none => exact ⟨_, _, _, _, rfl⟩
  | some o => exact ⟨_, _, _, _, rfl⟩
theorem nat_beq (n m : Nat) : ((n : Int) == (m : Int)) = (n == m) := by
  by_cases h : n = m
  · subst h; simp
  · have h1 : ¬ (n : Int) = (m : Int) := by omega
    rw [beq_eq_false_iff_ne.2 h, beq_eq_false_iff_ne.2 h1]
theorem nulltest_any (o : Int) (w : World) :
    Calls Tryz.prog 103 #[.int .i64 o] w fun e w' => e = .returned (.string ⟨(nullB o).toArray⟩) ∧ w' = w := by
  unfold nullB
  by_cases ho : o = 1
  · subst ho
    go_enter Tryz.func103, Tryz.ntmps103
    go_wp2
    go_ret
    exact ⟨rfl, rfl⟩
  · rw [if_neg ho]
    have e : (o == 1) = false := beq_eq_false_iff_ne.2 ho
    clear ho
    go_enter Tryz.func103, Tryz.ntmps103
    go_wp2
    go_ret
    exact ⟨rfl, rfl⟩
/-- An expression as a value, its fields as they come. -/
abbrev xV (k0 o0 vk vn j0 j1 : Int) (vs ts ns : ByteArray) (p0 : Option Addr) (n0 c0 : Nat) : Value := .agg #[.int .i64 k0, .int .i64 o0, .int .i64 vk, .int .i64 vn, .string vs, .string ts, .string ns, .int .i64 j0, .int .i64 j1, .slice p0 n0 c0]
def FitsOk (k0 o0 vk vn j0 j1 : Int) (vs ts ns : ByteArray) (p0 : Option Addr) (n0 c0 : Nat) (w : World) (r : Bool) : Prop :=
  Calls Tryz.prog 95 #[.agg #[.int .i64 k0, .int .i64 o0, .int .i64 vk, .int .i64 vn, .string vs, .string ts, .string ns, .int .i64 j0, .int .i64 j1, .slice p0 n0 c0]] w fun e w' => e = .returned (.bool r) ∧ Below w.heap.size w w'
set_option maxHeartbeats 4000000 in
theorem fits_leaf (k0 o0 vk vn j0 j1 : Int) (vs ts ns : ByteArray) (p0 : Option Addr) (n0 c0 : Nat) (w : World) (hk : k0 = 1 ∨ k0 = 2) : FitsOk k0 o0 vk vn j0 j1 vs ts ns p0 n0 c0 w (o0 == 0 && n0 == 0) := by
  unfold FitsOk
  rw [← nat_beq]
  rcases hk with rfl | rfl
  all_goals
    by_cases ho : o0 = 0
    · subst ho
      cases hn : ((n0 : Int) == ((0 : Nat) : Int)) <;>
      · replace hn : ((n0 : Int) == 0) = _ := hn
        go_enter Tryz.func95, Tryz.ntmps95
        go_wp2
        go_ret
        exact ⟨rfl, albl _ _⟩
    · have e : (o0 == 0) = false := beq_eq_false_iff_ne.2 ho
      rw [e]
      clear ho
      go_enter Tryz.func95, Tryz.ntmps95
      go_wp2
      go_ret
      exact ⟨rfl, albl _ _⟩
set_option maxHeartbeats 4000000 in
theorem fits_one (o0 vk vn j0 j1 : Int) (vs ts ns : ByteArray) (p0 : Option Addr) (n0 c0 : Nat) (w : World) (h : Gl w) : FitsOk 3 o0 vk vn j0 j1 vs ts ns p0 n0 c0 w ((opOf 3 o0).isSome && n0 == 1) := by
  unfold FitsOk
  rw [← nat_beq]
  have C := hid (operatorOf_any 3 o0 vk vn j0 j1 vs ts ns p0 n0 c0 _ (h.chg (F := fun _ => False) (Chg.of_below (albl w (.cells #[.int .i64 3, .int .i64 o0, .int .i64 vk, .int .i64 vn, .string vs, .string ts, .string ns, .int .i64 j0, .int .i64 j1, .slice p0 n0 c0] 26))) id id))
  obtain ⟨a1, a2, a3, a4, a5, ea⟩ := oprO_frm (opOf 3 o0)
  rw [ea] at C
  obtain ⟨b, hb⟩ : ∃ b, (opOf 3 o0).isSome = b := ⟨_, rfl⟩
  rw [hb] at C ⊢
  clear ea hb h
  cases b with
  | true =>
    cases hn : ((n0 : Int) == ((1 : Nat) : Int)) <;>
    · replace hn : ((n0 : Int) == 1) = _ := hn
      go_enter Tryz.func95, Tryz.ntmps95
      go_wp2_with (go_at_call 99; with_reducible refine C.out.mono ?_; rintro e w2 ⟨rfl, b2⟩; have B2 := hid (lxbelow_new b2); clear b2)
      go_ret
      exact ⟨rfl, B2.out.alloc B2.out.size _⟩
  | false =>
    go_enter Tryz.func95, Tryz.ntmps95
    go_wp2_with (go_at_call 99; with_reducible refine C.out.mono ?_; rintro e w2 ⟨rfl, b2⟩; have B2 := hid (lxbelow_new b2); clear b2)
    go_ret
    exact ⟨rfl, B2.out.alloc B2.out.size _⟩
set_option maxHeartbeats 4000000 in
theorem fits_two (o0 vk vn j0 j1 : Int) (vs ts ns : ByteArray) (p0 : Option Addr) (n0 c0 : Nat) (w : World) (h : Gl w) : FitsOk 4 o0 vk vn j0 j1 vs ts ns p0 n0 c0 w ((opOf 4 o0).isSome && n0 == 2) := by
  unfold FitsOk
  rw [← nat_beq]
  have C := hid (operatorOf_any 4 o0 vk vn j0 j1 vs ts ns p0 n0 c0 _ (h.chg (F := fun _ => False) (Chg.of_below (albl w (.cells #[.int .i64 4, .int .i64 o0, .int .i64 vk, .int .i64 vn, .string vs, .string ts, .string ns, .int .i64 j0, .int .i64 j1, .slice p0 n0 c0] 26))) id id))
  obtain ⟨a1, a2, a3, a4, a5, ea⟩ := oprO_frm (opOf 4 o0)
  rw [ea] at C
  obtain ⟨b, hb⟩ : ∃ b, (opOf 4 o0).isSome = b := ⟨_, rfl⟩
  rw [hb] at C ⊢
  clear ea hb h
  cases b with
  | true =>
    cases hn : ((n0 : Int) == ((2 : Nat) : Int)) <;>
    · replace hn : ((n0 : Int) == 2) = _ := hn
      go_enter Tryz.func95, Tryz.ntmps95
      go_wp2_with (go_at_call 99; with_reducible refine C.out.mono ?_; rintro e w2 ⟨rfl, b2⟩; have B2 := hid (lxbelow_new b2); clear b2)
      go_ret
      exact ⟨rfl, B2.out.alloc B2.out.size _⟩
  | false =>
    go_enter Tryz.func95, Tryz.ntmps95
    go_wp2_with (go_at_call 99; with_reducible refine C.out.mono ?_; rintro e w2 ⟨rfl, b2⟩; have B2 := hid (lxbelow_new b2); clear b2)
    go_ret
    exact ⟨rfl, B2.out.alloc B2.out.size _⟩
set_option maxHeartbeats 4000000 in
theorem fits_null (o0 vk vn j0 j1 : Int) (vs ts ns : ByteArray) (p0 : Option Addr) (n0 c0 : Nat) (w : World) : FitsOk 7 o0 vk vn j0 j1 vs ts ns p0 n0 c0 w ((o0 == 0 || o0 == 1) && n0 == 1) := by
  unfold FitsOk
  rw [← nat_beq]
  by_cases h0 : o0 = 0
  · subst h0
    cases hn : ((n0 : Int) == ((1 : Nat) : Int)) <;>
    · replace hn : ((n0 : Int) == 1) = _ := hn
      go_enter Tryz.func95, Tryz.ntmps95
      go_wp2
      go_ret
      exact ⟨rfl, albl _ _⟩
  · by_cases h1 : o0 = 1
    · subst h1
      cases hn : ((n0 : Int) == ((1 : Nat) : Int)) <;>
      · replace hn : ((n0 : Int) == 1) = _ := hn
        go_enter Tryz.func95, Tryz.ntmps95
        go_wp2
        go_ret
        exact ⟨rfl, albl _ _⟩
    · have e0 : (o0 == 0) = false := beq_eq_false_iff_ne.2 h0
      have e1 : (o0 == 1) = false := beq_eq_false_iff_ne.2 h1
      rw [e0, e1]
      clear h0 h1
      go_enter Tryz.func95, Tryz.ntmps95
      go_wp2
      go_ret
      exact ⟨rfl, albl _ _⟩
set_option maxHeartbeats 4000000 in
theorem fits_other (k0 o0 vk vn j0 j1 : Int) (vs ts ns : ByteArray) (p0 : Option Addr) (n0 c0 : Nat) (w : World) (h1 : k0 ≠ 1) (h2 : k0 ≠ 2) (h3 : k0 ≠ 3) (h4 : k0 ≠ 4) (h5 : k0 ≠ 5) (h6 : k0 ≠ 6) (h7 : k0 ≠ 7) : FitsOk k0 o0 vk vn j0 j1 vs ts ns p0 n0 c0 w false := by
  unfold FitsOk
  replace h1 : (k0 == 1) = false := beq_eq_false_iff_ne.2 h1
  replace h2 : (k0 == 2) = false := beq_eq_false_iff_ne.2 h2
  replace h3 : (k0 == 3) = false := beq_eq_false_iff_ne.2 h3
  replace h4 : (k0 == 4) = false := beq_eq_false_iff_ne.2 h4
  replace h5 : (k0 == 5) = false := beq_eq_false_iff_ne.2 h5
  replace h6 : (k0 == 6) = false := beq_eq_false_iff_ne.2 h6
  replace h7 : (k0 == 7) = false := beq_eq_false_iff_ne.2 h7
  go_enter Tryz.func95, Tryz.ntmps95
  go_wp2
  go_ret
  exact ⟨rfl, albl _ _⟩
set_option maxHeartbeats 4000000 in
theorem fits_callN (k0 o0 vk vn j0 j1 : Int) (vs ts ns : ByteArray) (p0 : Option Addr) (n0 c0 : Nat) (w : World) (h : Gl w) (hk : k0 = 5 ∨ k0 = 6) (hc : calOf k0 o0 = none) : FitsOk k0 o0 vk vn j0 j1 vs ts ns p0 n0 c0 w false := by
  unfold FitsOk
  have C := hid (callOf_any k0 o0 vk vn j0 j1 vs ts ns p0 n0 c0 _ (h.chg (F := fun _ => False) (Chg.of_below (albl w (.cells #[.int .i64 k0, .int .i64 o0, .int .i64 vk, .int .i64 vn, .string vs, .string ts, .string ns, .int .i64 j0, .int .i64 j1, .slice p0 n0 c0] 26))) id id))
  rw [hc] at C
  unfold calO at C
  simp only [Option.isSome_none] at C
  clear hc h
  rcases hk with rfl | rfl
  all_goals
    go_enter Tryz.func95, Tryz.ntmps95
    go_wp2_with (go_at_call 147; with_reducible refine C.out.mono ?_; rintro e w2 ⟨rfl, b2⟩; have B2 := hid (lxbelow_new b2); clear b2)
    go_ret
    exact ⟨rfl, B2.out.alloc B2.out.size _⟩
set_option maxHeartbeats 4000000 in
theorem fits_callS (k0 o0 vk vn j0 j1 : Int) (vs ts ns : ByteArray) (p0 : Option Addr) (n0 c0 : Nat) (w : World) (h : Gl w) (hk : k0 = 5 ∨ k0 = 6) (cl : Cal) (hc : calOf k0 o0 = some cl) : FitsOk k0 o0 vk vn j0 j1 vs ts ns p0 n0 c0 w (n0 == cl.cnt || (cl.all && n0 == 0)) := by
  unfold FitsOk
  have C := hid (callOf_any k0 o0 vk vn j0 j1 vs ts ns p0 n0 c0 _ (h.chg (F := fun _ => False) (Chg.of_below (albl w (.cells #[.int .i64 k0, .int .i64 o0, .int .i64 vk, .int .i64 vn, .string vs, .string ts, .string ns, .int .i64 j0, .int .i64 j1, .slice p0 n0 c0] 26))) id id))
  rw [hc] at C
  have HC := hid (fun w => counts_any cl w)
  unfold calO at C
  simp only [Option.isSome_some] at C
  rw [← nat_beq, ← nat_beq]
  clear hc h
  obtain ⟨ck, co, cn, cc⟩ := cl
  obtain ⟨al, hal⟩ : ∃ al, (Cal.mk ck co cn cc).all = al := ⟨_, rfl⟩
  rw [hal] at HC ⊢
  clear hal
  simp only [] at C HC ⊢
  rcases hk with rfl | rfl
  all_goals
    cases hn : ((n0 : Int) == (cc : Int)) with
    | true =>
      go_enter Tryz.func95, Tryz.ntmps95
      go_wp2_with (first
        | (go_at_call 147; with_reducible refine C.out.mono ?_; rintro e w2 ⟨rfl, b2⟩; have B2 := hid (lxbelow_new b2); clear b2)
        | fail)
      go_ret
      exact ⟨rfl, B2.out.alloc B2.out.size _⟩
    | false =>
      cases al with
      | true =>
        cases hz : ((n0 : Int) == ((0 : Nat) : Int)) <;>
        · replace hz : ((n0 : Int) == 0) = _ := hz
          go_enter Tryz.func95, Tryz.ntmps95
          go_wp2_with (first
            | (go_at_call 147; with_reducible refine C.out.mono ?_; rintro e w2 ⟨rfl, b2⟩; have B2 := hid (lxbelow_new b2); clear b2)
            | (go_at_call 148; with_reducible refine (HC.out _).mono ?_; rintro e w3 ⟨rfl, b3⟩; have B3 := hid (lxbelow_new b3); clear b3)
            | fail)
          go_ret
          exact ⟨rfl, B2.out.trans (B3.out.mono B2.out.size)⟩
      | false =>
        go_enter Tryz.func95, Tryz.ntmps95
        go_wp2_with (first
          | (go_at_call 147; with_reducible refine C.out.mono ?_; rintro e w2 ⟨rfl, b2⟩; have B2 := hid (lxbelow_new b2); clear b2)
          | (go_at_call 148; with_reducible refine (HC.out _).mono ?_; rintro e w3 ⟨rfl, b3⟩; have B3 := hid (lxbelow_new b3); clear b3)
          | fail)
        go_ret
        exact ⟨rfl, B2.out.trans (B3.out.mono B2.out.size)⟩
theorem fits_any (k0 o0 vk vn j0 j1 : Int) (vs ts ns : ByteArray) (p0 : Option Addr) (n0 c0 : Nat) (w : World) (h : Gl w) : FitsOk k0 o0 vk vn j0 j1 vs ts ns p0 n0 c0 w (fitsB k0 o0 n0) := by
  unfold fitsB
  by_cases h12 : k0 = 1 ∨ k0 = 2
  · rw [if_pos h12]; exact fits_leaf k0 o0 vk vn j0 j1 vs ts ns p0 n0 c0 w h12
  rw [if_neg h12]
  by_cases h3 : k0 = 3
  · rw [if_pos h3]; subst h3; exact fits_one o0 vk vn j0 j1 vs ts ns p0 n0 c0 w h
  rw [if_neg h3]
  by_cases h4 : k0 = 4
  · rw [if_pos h4]; subst h4; exact fits_two o0 vk vn j0 j1 vs ts ns p0 n0 c0 w h
  rw [if_neg h4]
  by_cases h7 : k0 = 7
  · rw [if_pos h7]; subst h7; exact fits_null o0 vk vn j0 j1 vs ts ns p0 n0 c0 w
  rw [if_neg h7]
  by_cases h56 : k0 = 5 ∨ k0 = 6
  · rw [if_pos h56]
    cases hc : calOf k0 o0 with
    | none => exact fits_callN k0 o0 vk vn j0 j1 vs ts ns p0 n0 c0 w h h56 hc
    | some cl => exact fits_callS k0 o0 vk vn j0 j1 vs ts ns p0 n0 c0 w h h56 cl hc
  · rw [if_neg h56]
    exact fits_other k0 o0 vk vn j0 j1 vs ts ns p0 n0 c0 w (fun q => h12 (Or.inl q)) (fun q => h12 (Or.inr q)) h3 h4 (fun q => h56 (Or.inl q)) (fun q => h56 (Or.inr q)) h7
end Go.Proofs.YtblkhlhhlalbkaaGreatDoor
namespace Go.Proofs.YtblkhlhhlalbkaaGreatDoor
open Go.RowKit Go.Lib Go.Sort
set_option linter.unusedVariables false
set_option maxRecDepth 20000

/-- A variable that holds an expression, its fields as they come. -/
def BG (w : World) (b : Nat) (k0 o0 vk vn j0 j1 : Int) (vs ts ns : ByteArray) (p0 : Option Addr) (n0 c0 : Nat) : Prop := w.heap[b]? = some (.cells #[.int .i64 k0, .int .i64 o0, .int .i64 vk, .int .i64 vn, .string vs, .string ts, .string ns, .int .i64 j0, .int .i64 j1, .slice p0 n0 c0] 26 (0, 0))
theorem BG.new (w : World) (k0 o0 vk vn j0 j1 : Int) (vs ts ns : ByteArray) (p0 : Option Addr) (n0 c0 : Nat) : BG (w.alloc (.cells #[.int .i64 k0, .int .i64 o0, .int .i64 vk, .int .i64 vn, .string vs, .string ts, .string ns, .int .i64 j0, .int .i64 j1, .slice p0 n0 c0] 26)) w.heap.size k0 o0 vk vn j0 j1 vs ts ns p0 n0 c0 := heap_alloc_new w _
theorem BG.lt {w : World} {b : Nat} {k0 o0 vk vn j0 j1 : Int} {vs ts ns : ByteArray} {p0 : Option Addr} {n0 c0 : Nat} (h : BG w b k0 o0 vk vn j0 j1 vs ts ns p0 n0 c0) : b < w.heap.size := (Array.getElem?_eq_some_iff.1 h).1
theorem BG.chg {F : Nat → Prop} {w w' : World} {b : Nat} {k0 o0 vk vn j0 j1 : Int} {vs ts ns : ByteArray} {p0 : Option Addr} {n0 c0 : Nat} (h : BG w b k0 o0 vk vn j0 j1 vs ts ns p0 n0 c0) (C : Chg F w w') (hn : ¬ F b) : BG w' b k0 o0 vk vn j0 j1 vs ts ns p0 n0 c0 := (C.block b h.lt hn).trans h
theorem BG.below {w w' : World} {b : Nat} {k0 o0 vk vn j0 j1 : Int} {vs ts ns : ByteArray} {p0 : Option Addr} {n0 c0 : Nat} (h : BG w b k0 o0 vk vn j0 j1 vs ts ns p0 n0 c0) (B : Below w.heap.size w w') : BG w' b k0 o0 vk vn j0 j1 vs ts ns p0 n0 c0 := (B.block b h.lt).trans h
theorem BG.cells {w : World} {b : Nat} {k0 o0 vk vn j0 j1 : Int} {vs ts ns : ByteArray} {p0 : Option Addr} {n0 c0 : Nat} (h : BG w b k0 o0 vk vn j0 j1 vs ts ns p0 n0 c0) :
    w.cell? ⟨b, 0, none⟩ = some (.int .i64 k0) ∧ w.cell? ⟨b, 1, none⟩ = some (.int .i64 o0) ∧ w.cell? ⟨b, 2, none⟩ = some (.int .i64 vk) ∧ w.cell? ⟨b, 3, none⟩ = some (.int .i64 vn) ∧ w.cell? ⟨b, 4, none⟩ = some (.string vs) ∧ w.cell? ⟨b, 5, none⟩ = some (.string ts) ∧ w.cell? ⟨b, 6, none⟩ = some (.string ns) ∧ w.cell? ⟨b, 7, none⟩ = some (.int .i64 j0) ∧ w.cell? ⟨b, 8, none⟩ = some (.int .i64 j1) ∧ w.cell? ⟨b, 9, none⟩ = some (.slice p0 n0 c0) := by
  refine ⟨?_, ?_, ?_, ?_, ?_, ?_, ?_, ?_, ?_, ?_⟩ <;> (rw [Lib.cell_of_heap h]; rfl)
theorem Gl.below {w w' : World} (h : Gl w) (B : Below w.heap.size w w') : Gl w' := h.chg (F := fun _ => False) (Chg.of_below B) id id
set_option maxHeartbeats 4000000 in
theorem lineof_any (k0 o0 vk vn j0 j1 : Int) (vs ts ns : ByteArray) (p0 : Option Addr) (n0 c0 : Nat) (w : World) (h : Gl w) :
    Calls Tryz.prog 158 #[.agg #[.int .i64 k0, .int .i64 o0, .int .i64 vk, .int .i64 vn, .string vs, .string ts, .string ns, .int .i64 j0, .int .i64 j1, .slice p0 n0 c0]] w fun e w' => e = .returned (.int .i64 (lineB k0 o0 n0)) ∧ Below w.heap.size w w' := by
  have B0 := albl w (.cells #[.int .i64 k0, .int .i64 o0, .int .i64 vk, .int .i64 vn, .string vs, .string ts, .string ns, .int .i64 j0, .int .i64 j1, .slice p0 n0 c0] 26)
  have HB0 := hid B0
  have HG := hid (h.below B0)
  have HX := hid (BG.new w k0 o0 vk vn j0 j1 vs ts ns p0 n0 c0)
  have C := hid (fits_any k0 o0 vk vn j0 j1 vs ts ns p0 n0 c0 _ (h.below B0))
  have HO := hid (fun w (g : Gl w) => operatorOf_any k0 o0 vk vn j0 j1 vs ts ns p0 n0 c0 w g)
  unfold FitsOk at C
  unfold lineB
  cases hb : fitsB k0 o0 n0 with
  | false =>
    rw [hb] at C
    rw [if_pos rfl]
    clear B0 h hb
    go_enter Tryz.func158, Tryz.ntmps158
    go_wp2_with (go_at_call 95; with_reducible refine C.out.mono ?_; rintro e w2 ⟨rfl, b2⟩; have B2 := hid (lxbelow_new b2); clear b2)
    go_ret
    exact ⟨rfl, B2.out⟩
  | true =>
    rw [hb] at C
    rw [if_neg (by simp)]
    clear B0 h hb
    cases ho : opOf k0 o0 with
    | some o =>
      rw [ho] at HO
      unfold oprO at HO
      simp only [Option.isSome_some] at HO ⊢
      clear ho
      go_enter Tryz.func158, Tryz.ntmps158
      go_wp2_with (first
        | (go_at_call 95; with_reducible refine C.out.mono ?_; rintro e w2 ⟨rfl, b2⟩; have B2 := hid (lxbelow_new b2); obtain ⟨x0, x1, x2, x3, x4, x5, x6, x7, x8, x9⟩ := (HX.out.below b2).cells; have C2 := hid (HO.out _ (HG.out.below b2)); clear b2)
        | (go_at_call 99; with_reducible refine C2.out.mono ?_; rintro e w3 ⟨rfl, b3⟩; have B3 := hid (B2.out.trans (b3.mono B2.out.size)); clear b3)
        | fail)
      go_ret
      exact ⟨rfl, B3.out.alloc B3.out.size _⟩
    | none =>
      rw [ho] at HO
      unfold oprO at HO
      simp only [Option.isSome_none] at HO ⊢
      clear ho
      by_cases h7 : k0 = 7
      · rw [if_pos h7]
        subst h7
        go_enter Tryz.func158, Tryz.ntmps158
        go_wp2_with (first
          | (go_at_call 95; with_reducible refine C.out.mono ?_; rintro e w2 ⟨rfl, b2⟩; have B2 := hid (lxbelow_new b2); have HX2 := hid (HX.out.below b2); obtain ⟨x0, x1, x2, x3, x4, x5, x6, x7, x8, x9⟩ := HX2.out.cells; have C2 := hid (HO.out _ (HG.out.below b2)); clear b2)
          | (go_at_call 99; with_reducible refine C2.out.mono ?_; rintro e w3 ⟨rfl, b3⟩; have B3 := hid (B2.out.trans (b3.mono B2.out.size)); obtain ⟨y0, y1, y2, y3, y4, y5, y6, y7, y8, y9⟩ := (HX2.out.below b3).cells; have l3 := (HX2.out.below b3).lt; clear b3)
          | fail)
        go_ret
        exact ⟨rfl, B3.out.alloc B3.out.size _⟩
      · rw [if_neg h7]
        have e7 : (k0 == 7) = false := beq_eq_false_iff_ne.2 h7
        clear h7
        go_enter Tryz.func158, Tryz.ntmps158
        go_wp2_with (first
          | (go_at_call 95; with_reducible refine C.out.mono ?_; rintro e w2 ⟨rfl, b2⟩; have B2 := hid (lxbelow_new b2); have HX2 := hid (HX.out.below b2); obtain ⟨x0, x1, x2, x3, x4, x5, x6, x7, x8, x9⟩ := HX2.out.cells; have C2 := hid (HO.out _ (HG.out.below b2)); clear b2)
          | (go_at_call 99; with_reducible refine C2.out.mono ?_; rintro e w3 ⟨rfl, b3⟩; have B3 := hid (B2.out.trans (b3.mono B2.out.size)); obtain ⟨y0, y1, y2, y3, y4, y5, y6, y7, y8, y9⟩ := (HX2.out.below b3).cells; have l3 := (HX2.out.below b3).lt; clear b3)
          | fail)
        go_ret
        exact ⟨rfl, B3.out.alloc B3.out.size _⟩

theorem flat1 (l a : List UInt8) : l ++ [a].flatten = l ++ a := by simp
theorem flat2 (l a b : List UInt8) : l ++ [a, b].flatten = l ++ (a ++ b) := by simp
theorem flat3 (l a b c : List UInt8) : l ++ [a, b, c].flatten = l ++ (a ++ (b ++ c)) := by simp
set_option maxHeartbeats 4000000 in
theorem wcolumn_any {F : Nat → Prop} {b : Nat} {l : List UInt8} {w : World} (k0 o0 vk vn j0 j1 : Int) (vs : ByteArray) (t n : List UInt8) (p0 : Option Addr) (n0 c0 : Nat) (h : WF F b l w) (hF : ∀ k, F k → k < w.heap.size) (hlen : l.length + (colB t n).length ≤ 140737488351232) :
    Calls Tryz.prog 98 #[.pointer (some ⟨b, 0, none⟩), .agg #[.int .i64 k0, .int .i64 o0, .int .i64 vk, .int .i64 vn, .string vs, .string ⟨t.toArray⟩, .string ⟨n.toArray⟩, .int .i64 j0, .int .i64 j1, .slice p0 n0 c0]] w fun e w' => e = .returned (.tuple #[]) ∧ WrE F b (l ++ colB t n) w w' := by
  have HX := hid (BG.new w k0 o0 vk vn j0 j1 vs ⟨t.toArray⟩ ⟨n.toArray⟩ p0 n0 c0)
  have HF := hid hF
  have S0 := hid ((WS.start h hF).alloc (.cells #[.int .i64 k0, .int .i64 o0, .int .i64 vk, .int .i64 vn, .string vs, .string ⟨t.toArray⟩, .string ⟨n.toArray⟩, .int .i64 j0, .int .i64 j1, .slice p0 n0 c0] 26))
  have HL := hid hlen
  clear h hF hlen
  unfold colB at HL ⊢
  by_cases ht : t = []
  · subst ht
    rw [if_pos rfl] at HL ⊢
    go_enter Tryz.func98, Tryz.ntmps98
    go_upto_region 1 with fail
    generalize hW : w.alloc _ = W at *
    clear hW
    obtain ⟨x0, x1, x2, x3, x4, x5, x6, x7, x8, x9⟩ := HX.out.cells
    have T1 := hid (S0.out.text HF.out [n] [.string ⟨n.toArray⟩] rfl 1 1 rfl (by have := HL.out; simpa using this) (by simp))
    rw [flat1] at T1
    go_wp2_with (first
      | (go_at_call 96; with_reducible refine T1.out.mono ?_; rintro e w2 ⟨rfl, s2, _⟩; have S2 := hid s2; clear s2)
      | fail)
    exact end0 rfl rfl ⟨rfl, S2.out.fin⟩
  · rw [if_neg ht] at HL ⊢
    have hte : t.isEmpty = false := by simpa using ht
    clear ht
    go_enter Tryz.func98, Tryz.ntmps98
    go_upto_region 1 with fail
    generalize hW : w.alloc _ = W at *
    clear hW
    have hXl := HX.out.lt
    obtain ⟨x0, x1, x2, x3, x4, x5, x6, x7, x8, x9⟩ := HX.out.cells
    have T1 := hid (S0.out.text HF.out [t, [46]] [.string ⟨t.toArray⟩, .string ⟨#[46]⟩] rfl 2 2 rfl (by have := HL.out; simp at this ⊢; omega) (by simp))
    rw [flat2] at T1
    go_wp2_with (first
      | (go_at_call 96; with_reducible refine T1.out.mono ?_; rintro e w2 ⟨rfl, s2, G, c2, g2, _⟩
         have hX2 := (HX.out.chg (Chg.of_below (F := fun _ => False) (albl W _)) id).chg c2 (g2 _ (Or.inl (Or.inr rfl)))
         obtain ⟨y0, y1, y2, y3, y4, y5, y6, y7, y8, y9⟩ := hX2.cells
         have S2 := hid s2
         have T2 := hid (S2.out.text HF.out [n] [.string ⟨n.toArray⟩] rfl 1 1 rfl (by have := HL.out; simp at this ⊢; omega) (by simp)); rw [flat1] at T2; clear s2 c2 g2 hX2)
      | (go_at_call 96; with_reducible refine T2.out.mono ?_; rintro e w3 ⟨rfl, s3, _⟩; have S3 := hid s3; clear s3)
      | fail)
    refine end0 rfl rfl ⟨rfl, ?_⟩
    have := S3.out.fin
    simpa using this
end Go.Proofs.YtblkhlhhlalbkaaGreatDoor
