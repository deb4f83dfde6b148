/- What callNamed, counts and literal of package expr do. Conditions: none. What nullness, name, column and call of the reader of package expr do. Conditions: none. What brackets of the reader of package expr does. Conditions: none. Rows of expressions in memory, and what operands of the reader of package expr does. Conditions: none. What operands of the reader of package expr does. Conditions: none. -/
import Derived.Test.YtblkhlhhlalbkaaGreatDoorXG
import Derived.Laws.Rows
import Derived.Tactics
import Derived.Test.YtblkhlhhlalbkaaGreatDoorXA
import Derived.Test.YtblkhlhhlalbkaaGreatDoorEB
namespace Go.Proofs.YtblkhlhhlalbkaaGreatDoor
open Go.RowKit Go.Lib Go.Sort
set_option linter.unusedVariables false
set_option maxRecDepth 20000

/-- A call as a value; none: zeroes. -/
def calO : Option Cal → Value
  | some o => .agg #[.int .i64 o.kind, .int .i64 o.op, .string ⟨o.name.toArray⟩, .int .i64 (o.cnt : Int)]
  | none => .agg #[.int .i64 0, .int .i64 0, .string ⟨#[]⟩, .int .i64 0]
def calTb : Array Value := (cals.flatMap calV).toArray
theorem calT_size : (Tryz.prog.info? 185).map (·.size) = some calTb.size := by kernel_rfl
theorem calT_at (w : World) : ∀ (k : Nat) (h : k < 10), (Instr.index 185 (.agg calTb) (.int .i64 ((k : Nat) : Int))).run Tryz.prog w = .ok (calO cals[k]?) w
  | 0, _ => by kernel_rfl
  | 1, _ => by kernel_rfl
  | 2, _ => by kernel_rfl
  | 3, _ => by kernel_rfl
  | 4, _ => by kernel_rfl
  | 5, _ => by kernel_rfl
  | 6, _ => by kernel_rfl
  | 7, _ => by kernel_rfl
  | 8, _ => by kernel_rfl
  | 9, _ => by kernel_rfl
  | k + 10, h => by omega
/-- The result's block. -/
def ResC (w : World) (b : Nat) : Prop := w.heap[b]? = some (.cells #[.int .i64 0, .int .i64 0, .string ⟨#[]⟩, .int .i64 0] 161 (0, 0))
theorem ResC.below {w w' : World} {b B : Nat} (h : ResC w b) (hB : Below B w w') (hb : b < B) : ResC w' b := (hB.block b hb).trans h
theorem ResC.cells {w : World} {b : Nat} (h : ResC w b) : w.cell? ⟨b, 0, none⟩ = some (.int .i64 0) ∧ w.cell? ⟨b, 1, none⟩ = some (.int .i64 0) ∧ w.cell? ⟨b, 2, none⟩ = some (.string ⟨#[]⟩) ∧ w.cell? ⟨b, 3, none⟩ = some (.int .i64 0) := by
  refine ⟨?_, ?_, ?_, ?_⟩ <;> (rw [Lib.cell_of_heap h]; rfl)
theorem ResC.frozen {w : World} {b : Nat} (h : ResC w b) (i : Nat) : w.frozen? ⟨b, i, none⟩ = false := Lib.frozen_of_heap h i
theorem below_putC {w w2 : World} {a b c d : Value} (h : Below w.heap.size w w2) : Below w.heap.size w ((((w2.setCell ⟨w.heap.size, 0, none⟩ a).setCell ⟨w.heap.size, 1, none⟩ b).setCell ⟨w.heap.size, 2, none⟩ c).setCell ⟨w.heap.size, 3, none⟩ d) :=
  (((h.setCell (p := ⟨w.heap.size, 0, none⟩) (Nat.le_refl _) _).setCell (p := ⟨w.heap.size, 1, none⟩) (Nat.le_refl _) _).setCell (p := ⟨w.heap.size, 2, none⟩) (Nat.le_refl _) _).setCell (p := ⟨w.heap.size, 3, none⟩) (Nat.le_refl _) _
theorem cfind_take {p : Cal → Bool} : ∀ (l : List Cal) (k : Nat) (h : k < l.length), (∀ j (hj : j < l.length), j < k → p l[j] = false) → p l[k] = true → l.find? p = some l[k]
  | a :: l, 0, h, _, hp => by simp at hp; simp [hp]
  | a :: l, k + 1, h, hn, hp => by
    have h0 : p a = false := hn 0 (by simp) (by omega)
    rw [List.find?_cons_of_neg (by simp [h0])]
    exact cfind_take l k (by simpa using h) (fun j hj hjk => hn (j + 1) (by simpa using hj) (by omega)) (by simpa using hp)
theorem cfind_none {p : Cal → Bool} (l : List Cal) (h : ∀ j (hj : j < l.length), p l[j] = false) : l.find? p = none := by
  rw [List.find?_eq_none]
  intro x hx
  obtain ⟨j, hj, rfl⟩ := List.getElem_of_mem hx
  simp [h j hj]
set_option maxHeartbeats 8000000 in
theorem callNamed_any {w : World} (s : List UInt8) (h : Gl w) :
    Calls Tryz.prog 176 #[.string ⟨s.toArray⟩] w fun e w' => e = .returned (.tuple #[calO (calN s), .bool (calN s).isSome]) ∧ Below w.heap.size w w' := by
  have hg : w.heap[1]? = some (.cells calTb 185 (0, 0)) := h.2
  have hgl := (Array.getElem?_eq_some_iff.1 hg).1
  have B0 : Below w.heap.size w (w.alloc (.cells #[.int .i64 0, .int .i64 0, .string ⟨#[]⟩, .int .i64 0] 161)) := (Below.refl _ _).alloc (Nat.le_refl _) _
  have hR := hid (show ResC (w.alloc (.cells #[.int .i64 0, .int .i64 0, .string ⟨#[]⟩, .int .i64 0] 161)) w.heap.size from heap_alloc_new w _)
  have hg1 := hid ((B0.block 1 hgl).trans hg)
  have HB0 := hid B0
  have hs0 : (w.alloc (.cells #[.int .i64 0, .int .i64 0, .string ⟨#[]⟩, .int .i64 0] 161)).heap.size = w.heap.size + 1 := by simp
  have hT := hid calT_at
  clear h B0 hg hgl
  go_enter Tryz.func176, Tryz.ntmps176
  go_upto_region 1 with fail
  refine wp_region_lit ?_
  refine wpList_load_row rfl 185 (.global 1) rfl 1 rfl 185 calTb (0, 0) _ hg1.out Tryz.underlying185 rfl calT_size ?_
  generalize calTb = V at *
  generalize hW : w.alloc _ = W at *
  clear hW
  go_wp2_with fail
  go_loopw [7] (fun i wr => ∃ k : Nat, k ≤ 10 ∧ i = .int .i64 (k : Int) ∧ Below (w.heap.size + 1) W wr ∧ ∀ j (hj : j < cals.length), j < k → (cals[j].name == s) = false) (fun i _ => 10 - (RowKit.intOf i).toNat)
  case atStart => exact ⟨0, by omega, rfl, Below.refl _ _, fun j hj h => absurd h (Nat.not_lt_zero _)⟩
  case round =>
    obtain ⟨k, hk, rfl, hbw, hno⟩ := hrel
    have HB := hid hbw
    have HN := hid hno
    have hsz := hbw.size
    have hlt2 : w.heap.size < wr.heap.size := by omega
    clear hbw hno
    by_cases hk16 : k < 10
    · have hi := fun w => hT.out w k hk16
      have hlt : (k : Int) < 10 := by omega
      have e0 : cals[k]? = some cals[k] := List.getElem?_eq_getElem (by exact hk16)
      rw [e0] at hi
      have HF := hid (fun hp => cfind_take (p := fun o => o.name == s) cals k (by exact hk16) HN.out hp)
      have HN2 := hid (fun (hp : (cals[k].name == s) = false) => (show ∀ j (hj : j < cals.length), j < k + 1 → (cals[j].name == s) = false from fun j hj h => by
        by_cases e : j = k
        · subst e; exact hp
        · exact HN.out j hj (by omega)))
      clear e0 HN
      have eop : calN s = cals.find? (fun o => o.name == s) := rfl
      rw [← eop] at HF
      generalize cals[k] = o at *
      have HBw := hid (HB0.out.trans (HB.out.mono (Nat.le_succ _)))
      have HRw := hid (hR.out.below HB.out (Nat.lt_succ_self _))
      obtain ⟨z0, z1, z2, z3⟩ := (hR.out.below HB.out (Nat.lt_succ_self _)).cells
      have zf := (hR.out.below HB.out (Nat.lt_succ_self _)).frozen
      have zf0 := zf 0
      have zf1 := zf 1
      have zf2 := zf 2
      have zf3 := zf 3
      unfold calO at hi
      simp only [] at hi
      cases hst : (o.name == s) with
      | true =>
        have HF2 := hid (HF.out hst)
        go_wp2_with fail
        rw [HF2.out]
        refine bodyPost_ret (by simp [results, Tryz.results176, go_sem, z0, z1, z2, z3, hlt2]; try rfl) rfl ?_
        exact ⟨rfl, (below_putC HBw.out).alloc (by simp [World.setCell]; omega) _⟩
      | false =>
        have HN3 := hid (HN2.out hst)
        go_wp2_with fail
        go_roundw
        case rel => exact ⟨k + 1, by omega, by go_num, HB.out.alloc (by omega) _, HN3.out⟩
        case measure => simp [RowKit.intOf]; omega
    · have hlt : ¬ (k : Int) < 10 := by omega
      have HF := hid (show calN s = none from cfind_none _ (fun j hj => HN.out j hj (by have : cals.length = 10 := rfl; omega)))
      obtain ⟨z0, z1, z2, z3⟩ := (hR.out.below HB.out (Nat.lt_succ_self _)).cells
      have zf := (hR.out.below HB.out (Nat.lt_succ_self _)).frozen
      go_wp2_with fail
      rw [HF.out]
      refine bodyPost_ret (by simp [results, Tryz.results176, go_sem, z0, z1, z2, z3]; try rfl) rfl ?_
      exact ⟨rfl, below_putC (HB0.out.trans (HB.out.mono (Nat.le_succ _)))⟩
set_option maxHeartbeats 4000000 in
theorem counts_any (o : Cal) (w : World) :
    Calls Tryz.prog 148 #[.agg #[.int .i64 o.kind, .int .i64 o.op, .string ⟨o.name.toArray⟩, .int .i64 (o.cnt : Int)]] w fun e w' => e = .returned (.bool o.all) ∧ Below w.heap.size w w' := by
  unfold Cal.all
  go_enter Tryz.func148, Tryz.ntmps148
  go_wp2
  all_goals go_ret
  all_goals refine ⟨?_, by go_grown⟩
  all_goals simp_all
end Go.Proofs.YtblkhlhhlalbkaaGreatDoor
namespace Go.Proofs.YtblkhlhhlalbkaaGreatDoor
open Go.RowKit Go.Lib Go.Sort
set_option linter.unusedVariables false
set_option maxRecDepth 20000

set_option maxHeartbeats 4000000 in
theorem nullness_any {w : World} {rb : Nat} {p : Option Addr} {c : Nat} {xs l : Ts} {d : Nat} (h : RS w rb p c xs l d) :
    Calls Tryz.prog 146 #[.pointer (some ⟨rb, 0, none⟩)] w (RdE (fun _ v n => v = .int .i64 n) rb p c xs d (nullP l) w) := by
  have T := hid (take_any 1 [110, 111, 116] h (by decide))
  have M := hid (fun w' l' (h' : RS w' rb p c xs l' d) => must_any 1 [110, 117, 108, 108] h' (by decide))
  unfold nullP mustP RdE
  unfold mustU RdE at M
  cases hs : stn 1 [110, 111, 116] l with
  | true =>
    rw [hs] at T
    simp only [if_true] at T ⊢
    cases hm : stn 1 [110, 117, 108, 108] l.tail with
    | true =>
      have M1 := hid (fun w' (h' : RS w' rb p c xs l.tail d) => M.out w' _ h')
      rw [hm] at M1
      simp only [if_true] at M1 ⊢
      go_enter Tryz.func146, Tryz.ntmps146
      go_wp2_with (first
        | (go_at_call 145; with_reducible refine T.out.mono ?_; rintro e w2 ⟨rfl, c2, r2⟩; have C2 := hid c2; have M2 := hid (M1.out _ r2); clear c2 r2)
        | (go_at_call 175; with_reducible refine M2.out.mono ?_; rintro e w3 ⟨c3, v3, rfl, rfl, r3⟩))
      go_ret
      exact ⟨chg_trans C2.out c3, _, rfl, rfl, r3⟩
    | false =>
      have M1 := hid (fun w' (h' : RS w' rb p c xs l.tail d) => M.out w' _ h')
      rw [hm] at M1
      simp only [Bool.false_eq_true, if_false] at M1 ⊢
      go_enter Tryz.func146, Tryz.ntmps146
      go_wp2_with (first
        | (go_at_call 145; with_reducible refine T.out.mono ?_; rintro e w2 ⟨rfl, c2, r2⟩; have C2 := hid c2; have M2 := hid (M1.out _ r2); clear c2 r2)
        | (go_at_call 175; with_reducible refine M2.out.mono ?_; rintro e w3 ⟨c3, v3, rfl, r3⟩))
      exact ⟨rfl, chg_trans C2.out c3, _, rfl, r3⟩
  | false =>
    rw [hs] at T
    simp only [Bool.false_eq_true, if_false] at T ⊢
    cases hm : stn 1 [110, 117, 108, 108] l with
    | true =>
      have M1 := hid (fun w' (h' : RS w' rb p c xs l d) => M.out w' _ h')
      rw [hm] at M1
      simp only [if_true] at M1 ⊢
      go_enter Tryz.func146, Tryz.ntmps146
      go_wp2_with (first
        | (go_at_call 145; with_reducible refine T.out.mono ?_; rintro e w2 ⟨rfl, c2, r2⟩; have C2 := hid c2; have M2 := hid (M1.out _ r2); clear c2 r2)
        | (go_at_call 175; with_reducible refine M2.out.mono ?_; rintro e w3 ⟨c3, v3, rfl, rfl, r3⟩))
      go_ret
      exact ⟨chg_trans C2.out c3, _, rfl, rfl, r3⟩
    | false =>
      have M1 := hid (fun w' (h' : RS w' rb p c xs l d) => M.out w' _ h')
      rw [hm] at M1
      simp only [Bool.false_eq_true, if_false] at M1 ⊢
      go_enter Tryz.func146, Tryz.ntmps146
      go_wp2_with (first
        | (go_at_call 145; with_reducible refine T.out.mono ?_; rintro e w2 ⟨rfl, c2, r2⟩; have C2 := hid c2; have M2 := hid (M1.out _ r2); clear c2 r2)
        | (go_at_call 175; with_reducible refine M2.out.mono ?_; rintro e w3 ⟨c3, v3, rfl, r3⟩))
      exact ⟨rfl, chg_trans C2.out c3, _, rfl, r3⟩
set_option maxHeartbeats 8000000 in
theorem rname1 {w : World} {rb : Nat} {p : Option Addr} {c : Nat} {xs l : Ts} {d : Nat} (k : Int) (s : List UInt8) (i n : Int) (h : RS w rb p c xs l d) (ht : tokV l 0 = .agg #[.int .i64 k, .string ⟨s.toArray⟩, .int .i64 i, .int .i64 n]) (hs : s.length ≤ 140737488351232) (hl : k = 1 → l ≠ []) :
    Calls Tryz.prog 179 #[.pointer (some ⟨rb, 0, none⟩)] w (RdE (fun _ v t => v = .string ⟨t.toArray⟩) rb p c xs d (if k = 1 ∧ nmB s = true then .ok (s, l.tail) else .error (l, 20)) w) := by
  have T := hid (token0 h)
  rw [ht] at T
  have HN := hid (fun w => xname_any s w hs)
  have H := hid h
  have hsz := h.suf.length_le
  have hlen := h.len
  have HTH := hid (fun w' (h' : RS w' rb p c xs l d) => fault_any 20 h')
  unfold RdE
  clear h ht
  by_cases hk : k = 1
  · have hlp : 0 < l.length := List.length_pos_iff.2 (hl hk)
    cases hn : nmB s with
    | true =>
      rw [hn] at HN
      simp only [if_true] at HN
      rw [if_pos ⟨hk, rfl⟩]
      have hw : IntKind.i64.wrap ((xs.length : Int) - (l.length : Int) + 1) = (xs.length : Int) - (l.length : Int) + 1 := by rw [IntKind.wrap_i64]; omega
      have HX : Hid ((xs.length : Int) - (l.length : Int) + 1 = (xs.length : Int) - (l.tail.length : Int)) := by show _ = _; rw [List.length_tail]; omega
      have hlt := H.out.lt
      clear hlp hsz hl HTH
      subst hk
      go_enter Tryz.func179, Tryz.ntmps179
      go_wp2_with (first
        | (go_at_call 138; with_reducible refine T.out.mono ?_; rintro e w2 ⟨rfl, b2⟩; have B2 := hid b2; have c1 := (H.out.below b2).c1; have f1 := (H.out.below b2).f 1; have hlt2 := Nat.lt_of_lt_of_le hlt b2.size; clear b2)
        | (go_at_call 199; with_reducible refine (HN.out _).mono ?_; rintro e w3 ⟨rfl, hw3⟩; replace hw3 := hw3.symm; subst hw3))
      go_ret
      exact ⟨(chg_set (chg_below B2.out) _).alloc _, _, rfl, rfl, ((H.out.below B2.out).mv (suf_tail.trans H.out.suf) _ HX.out).below (albl _ _)⟩
    | false =>
      rw [hn] at HN
      simp only [Bool.false_eq_true, if_false] at HN
      rw [if_neg (fun q => by cases q.2)]
      clear hlp hsz hl
      subst hk
      go_enter Tryz.func179, Tryz.ntmps179
      go_wp2_with (first
        | (go_at_call 138; with_reducible refine T.out.mono ?_; rintro e w2 ⟨rfl, b2⟩; have B2 := hid b2; clear b2)
        | (go_at_call 199; with_reducible refine (HN.out _).mono ?_; rintro e w3 ⟨rfl, hw3⟩; replace hw3 := hw3.symm; subst hw3)
        | (go_at_call 174; with_reducible refine (HTH.out _ ((H.out.below B2.out).below (albl _ _))).mono ?_; rintro e w4 ⟨bb, rfl, b4, f4⟩))
      exact ⟨rfl, chg_trans (Chg.alloc (chg_below B2.out) _) (chg_below b4), bb, rfl, f4⟩
  · rw [if_neg (fun q => hk q.1)]
    clear hsz hl
    go_enter Tryz.func179, Tryz.ntmps179
    go_wp2_with (first
      | (go_at_call 138; with_reducible refine T.out.mono ?_; rintro e w2 ⟨rfl, b2⟩; have B2 := hid b2; clear b2)
      | (go_at_call 199; with_reducible refine (HN.out _).mono ?_; rintro e w3 ⟨rfl, hw3⟩; replace hw3 := hw3.symm; subst hw3)
      | (go_at_call 174; with_reducible refine (HTH.out _ ((H.out.below B2.out).below (albl _ _))).mono ?_; rintro e w4 ⟨bb, rfl, b4, f4⟩))
    exact ⟨rfl, chg_trans (Chg.alloc (chg_below B2.out) _) (chg_below b4), bb, rfl, f4⟩
theorem rname_any {w : World} {rb : Nat} {p : Option Addr} {c : Nat} {xs l : Ts} {d : Nat} (h : RS w rb p c xs l d) :
    Calls Tryz.prog 179 #[.pointer (some ⟨rb, 0, none⟩)] w (RdE (fun _ v t => v = .string ⟨t.toArray⟩) rb p c xs d (nameP l) w) := by
  cases l with
  | nil => exact rname1 0 [] 0 0 h rfl (by decide) (by decide)
  | cons x r => exact rname1 x.1.k x.1.s x.2 x.1.n h rfl (h.txt x (h.suf.subset (List.mem_cons_self ..))) (fun _ q => by cases q)
end Go.Proofs.YtblkhlhhlalbkaaGreatDoor
namespace Go.Proofs.YtblkhlhhlalbkaaGreatDoor
open Go.RowKit Go.Lib Go.Sort
set_option linter.unusedVariables false
set_option maxRecDepth 20000

/-- How a reading ends that may turn another variable too. -/
def RdG {α : Type} (Fr : Nat → Prop) (Q : World → Value → α → Prop) (rb : Nat) (p : Option Addr) (c : Nat) (xs : Ts) (d : Nat) (x : Rd α) (w : World) (e : Ending) (w' : World) : Prop :=
  Chg Fr w w' ∧ match x with
    | .ok y => ∃ v, e = .returned v ∧ Q w' v y.1 ∧ RS w' rb p c xs y.2 d
    | .error y => ∃ b, e = .panicked (thrF b) ∧ Flt w' b (plc xs y.1) y.2
theorem frm {rb eb : Nat} {a b c : World} (h : Chg (fun k => k = rb ∨ k = eb) a b) (k : Chg (fun k => k = rb ∨ k = eb) b c) : Chg (fun k => k = rb ∨ k = eb) a c := h.trans k (fun _ _ q => q)
theorem frl {rb eb : Nat} {a b : World} (h : Chg (· = rb) a b) : Chg (fun k => k = rb ∨ k = eb) a b := h.mono (fun _ _ q => Or.inl q)
set_option maxHeartbeats 4000000 in
theorem brackets_no {w : World} {rb : Nat} {p : Option Addr} {c : Nat} {xs l : Ts} (v : Value) (h : RS w rb p c xs l 0) :
    Calls Tryz.prog 135 #[.pointer (some ⟨rb, 0, none⟩), v] w fun e w' => Below w.heap.size w w' ∧ ∃ b, e = .panicked (thrF b) ∧ Flt w' b (plc xs l) 21 := by
  have D := hid (deeper_no h)
  clear h
  go_enter Tryz.func135, Tryz.ntmps135
  go_wp2_with (first
    | (go_at_call 133; go_loud (with_reducible refine D.out.mono ?_); rintro e2 w2 ⟨b2, bb, rfl, f2⟩)
    | fail)
  exact ⟨rfl, b2, bb, rfl, f2⟩
/-- What stands in brackets, and the bracket behind it. -/
def brkE {α : Type} (x : Rd α) : Rd α := match x with
  | .error x => .error x
  | .ok y => match mustP 5 [41] y.2 with
    | .error x => .error x
    | .ok r => .ok (y.1, r)
set_option maxHeartbeats 8000000 in
theorem brackets_yes {α : Type} {w : World} {rb eb : Nat} {p : Option Addr} {c : Nat} {xs l : Ts} {d G : Nat} {cs : Array Value} (hx : Rd α) (Qa : World → α → Prop) (h : RS w rb p c xs l (d + 1)) (hl : l ≠ []) (hen : ∀ args w, (callFunc G args).run Tryz.prog w = .ok (.enter G args) w)
    (hW : ∀ w', Chg (· = rb) w w' → RS w' rb p c xs l.tail d → Calls Tryz.prog G cs w' (RdG (fun k => k = rb ∨ k = eb) (fun w'' v a => v = .tuple #[] ∧ Qa w'' a) rb p c xs d hx w'))
    (hQ : ∀ a w1 w2, Chg (· = rb) w1 w2 → Qa w1 a → Qa w2 a) :
    Calls Tryz.prog 135 #[.pointer (some ⟨rb, 0, none⟩), .func (.func G) #[] cs] w (RdG (fun k => k = rb ∨ k = eb) (fun w'' v a => v = .tuple #[] ∧ Qa w'' a) rb p c xs (d + 1) (brkE hx) w) := by
  have D := hid (deeper_yes h hl)
  have HW := hid hW
  have HQ := hid hQ
  have hdle := h.dle
  have hen' : ∀ w, (callFunc G (#[] ++ cs)).run Tryz.prog w = .ok (.enter G (#[] ++ cs)) w := fun w => hen _ w
  unfold RdG at HW
  unfold brkE mustP
  clear h hW hQ
  cases hx with
  | error x =>
    simp only [] at HW ⊢
    go_enter Tryz.func135, Tryz.ntmps135
    go_wp2_with (first
      | (go_at_call 133; go_loud (with_reducible refine D.out.mono ?_); rintro e2 w2 ⟨rfl, c2, r2⟩; have C2 := hid c2; have WW := hid (HW.out _ c2 r2); clear c2 r2)
      | (go_loud (refine WW.out.mono ?_); rintro e3 w3 ⟨c3, b3, rfl, f3⟩)
      | fail)
    exact ⟨rfl, frm (frl C2.out) c3, b3, rfl, f3⟩
  | ok y =>
    obtain ⟨a, l1⟩ := y
    simp only [] at HW ⊢
    have HM := hid (fun w' (r : RS w' rb p c xs l1 d) => must_any 5 [41] r (by decide))
    unfold RdE mustU at HM
    cases hs : stn 5 [41] l1 with
    | false =>
      rw [hs] at HM
      simp only [Bool.false_eq_true, if_false] at HM ⊢
      go_enter Tryz.func135, Tryz.ntmps135
      go_wp2_with (first
        | (go_at_call 133; go_loud (with_reducible refine D.out.mono ?_); rintro e2 w2 ⟨rfl, c2, r2⟩; have C2 := hid c2; have WW := hid (HW.out _ c2 r2); clear c2 r2)
        | (go_at_call 175; go_loud (with_reducible refine MM.out.mono ?_); rintro e4 w4 ⟨c4, b4, rfl, f4⟩)
        | (go_loud (refine WW.out.mono ?_); rintro e3 w3 ⟨c3, v3, rfl, ⟨rfl, q3⟩, r3⟩; have C3 := hid c3; have MM := hid (HM.out _ r3); clear c3 r3 q3)
        | fail)
      exact ⟨rfl, frm (frm (frl C2.out) C3.out) (frl c4), b4, rfl, f4⟩
    | true =>
      rw [hs] at HM
      simp only [if_true] at HM ⊢
      have hJ : IntKind.i64.wrap ((32 : Int) - (d : Int) - 1) = (32 : Int) - (d : Int) - 1 := by rw [IntKind.wrap_i64]; omega
      have HJ : Hid ((32 : Int) - (d : Int) - 1 = 32 - ((d + 1 : Nat) : Int)) := by show _ = _; omega
      go_enter Tryz.func135, Tryz.ntmps135
      go_wp2_with (first
        | (go_at_call 133; go_loud (with_reducible refine D.out.mono ?_); rintro e2 w2 ⟨rfl, c2, r2⟩; have C2 := hid c2; have WW := hid (HW.out _ c2 r2); clear c2 r2)
        | (go_at_call 175; go_loud (with_reducible refine MM.out.mono ?_); rintro e4 w4 ⟨c4, v4, rfl, rfl, r4⟩; have C4 := hid c4; have Q4 := hid (HQ.out _ _ _ c4 Q3.out); have R4 := hid r4; have c2 := r4.c2; have f2 := r4.f 2; clear c4 r4)
        | (go_loud (refine WW.out.mono ?_); rintro e3 w3 ⟨c3, v3, rfl, ⟨rfl, q3⟩, r3⟩; have C3 := hid c3; have Q3 := hid q3; have MM := hid (HM.out _ r3); clear c3 r3 q3)
        | fail)
      refine end0 rfl rfl ⟨?_, _, rfl, ⟨rfl, ?_⟩, ?_⟩
      · exact frm (frm (frm (frl C2.out) C3.out) (frl C4.out)) (frl (chg_set (Chg.refl _ _) _))
      · exact HQ.out _ _ _ (chg_set (Chg.refl _ _) _) Q4.out
      · exact R4.out.dp (d' := d + 1) hdle _ HJ.out
end Go.Proofs.YtblkhlhhlalbkaaGreatDoor
namespace Go.Proofs.YtblkhlhhlalbkaaGreatDoor
open Go.RowKit Go.Lib Go.Sort
set_option linter.unusedVariables false
set_option maxRecDepth 20000

/-- An expression, with where its operands lie. -/
abbrev EL := Ex × Option Addr × Nat
theorem infoX : (Tryz.prog.info? 26).map (fun i => (i.zero, i.size, i.bytes)) = some (some (.agg #[.int .i64 0, .int .i64 0, .int .i64 0, .int .i64 0, .string ByteArray.empty, .string ByteArray.empty, .string ByteArray.empty, .int .i64 0, .int .i64 0, .slice none 0 0]), 10, 120) := by kernel_rfl
def cell10 (x : EL) : List Value := [.int .i64 x.1.k, .int .i64 x.1.op, .int .i64 x.1.v.k, .int .i64 x.1.v.n, .string x.1.v.s, .string ⟨x.1.t.toArray⟩, .string ⟨x.1.n.toArray⟩, .int .i64 0, .int .i64 0, .slice x.2.1 x.1.xs.length x.2.2]
def cellsX : List EL → List Value
  | [] => []
  | x :: l => cell10 x ++ cellsX l
theorem cellsX_length : ∀ l : List EL, (cellsX l).length = l.length * 10
  | [] => rfl
  | a :: l => by simp [cellsX, cell10, cellsX_length l]; omega
theorem cellsX_snoc : ∀ (xs : List EL) (x : EL), cellsX xs ++ cell10 x = cellsX (xs ++ [x])
  | [], a => by simp [cellsX]
  | x :: xs, a => by simp only [cellsX, List.cons_append, List.append_assoc, cellsX_snoc xs a]
theorem cellsX_at : ∀ (l : List EL) (i : Nat) (h : i < l.length) (j : Nat), j < 10 → (cellsX l)[i * 10 + j]? = (cell10 l[i])[j]?
  | a :: l, 0, _, j, hj => by
    simp only [cellsX, Nat.zero_mul, Nat.zero_add, List.getElem_cons_zero]
    rw [List.getElem?_append_left (by simpa [cell10] using hj)]
  | a :: l, i + 1, h, j, hj => by
    have ih := cellsX_at l i (by simpa using h) j hj
    simp only [cellsX, List.getElem_cons_succ]
    rw [List.getElem?_append_right (by simp [cell10]; omega), ← ih]
    congr 1
    simp [cell10]
    omega
/-- A row of expressions that the call owns. -/
def OE (w : World) (base : Nat) (v : Value) (xs : List EL) : Prop := w.ownsRow base 26 10 v xs.length (cellsX xs)
theorem OE.chg {F : Nat → Prop} {w w' : World} {base : Nat} {v : Value} {l : List EL} (o : OE w base v l) (C : Chg F w w') (hF : ∀ g, base ≤ g → ¬ F g) : OE w' base v l := by
  obtain ⟨h1, h2⟩ := o
  refine ⟨h1, ?_⟩
  rcases h2 with h2 | ⟨g, cap, cur, hv, hg, hh, r⟩
  · exact Or.inl h2
  · exact Or.inr ⟨g, cap, cur, hv, hg, (C.block g (Array.getElem?_eq_some_iff.1 hh).1 (hF g hg)).trans hh, r⟩
/-- append(s, x) of an owned row of expressions. -/
theorem oeApp {ops : Array Oper} {rest : List Oper} {o : Oper} {a : Act} {Q : Exit → Act → World → Prop} (w0 : World) (base g : Nat) (s x : Operand) (v : Value) (l : List EL) (t : EL) (hgd : o.guard = none)
    (ho : o.op = .call { callee := .builtin .append, args := #[s, x], argTypes := #[24, 24] }) (hs : a.eval s = v) (hx : a.eval x = .slice (some ⟨g, 0, none⟩) 1 1) (hg : g = w0.heap.size)
    (O : OE w0 base v l) (hl : (l.length + 1) * 120 ≤ 140737488351232) (hb : base ≤ w0.heap.size)
    (h : ∀ v' w', OE w' base v' (l ++ [t]) → Chg (fun k => v.ownBlock = some k) w0 w' → (v'.ownBlock = v.ownBlock ∨ v'.ownBlock = some (w0.heap.size + 1)) → wpList Tryz.prog ops Q rest (a.put o.dst v') w') :
    wpList Tryz.prog ops Q (o :: rest) a (w0.alloc (.cells (cell10 t).toArray 26)) := by
  obtain ⟨i0, hi, hz0, hz1, hz2⟩ := info_parts infoX
  subst hg
  refine wpList_append_lies _ hgd s x 24 ho base 26 i0 _ 10 120 Tryz.underlying24 hi hz0 hz1 hz2 rfl (by decide) v _ _ hs (World.ownsRow.alloc O _) ⟨w0.heap.size, 0, none⟩ 1 1 (cell10 t) hx rfl (World.news_of_block (heap_alloc_new w0 _)) (by simp [cell10, Value.oneCell']) (by simp) (by unfold maxLen; omega) (by omega) (by simp; omega) _ rfl ?_
  intro g' cap' w3 hown hgrow hat hlt
  rw [cellsX_snoc l t] at hown
  have hown' : OE w3 base (.slice (some ⟨g', 0, none⟩) (l.length + 1) cap') (l ++ [t]) := by
    unfold OE
    rw [List.length_append]
    exact hown
  refine h _ w3 hown' (((Chg.refl _ w0).alloc _).grown hgrow (fun k hk => Or.inl hk)) ?_
  rcases hat with hat | hat
  · exact Or.inl hat.symm
  · exact Or.inr (by rw [hat]; simp [Value.ownBlock])
/-- The row as the operands of an expression. -/
theorem OE.eat {w : World} {base : Nat} {v : Value} {l : List EL} {F : Nat → Prop} (o : OE w base v l) (hF : ∀ g, base ≤ g → F g) (he : ∀ x ∈ l, ∃ k, EAt w F k x.1 x.2.1 ∧ x.1.xs.length ≤ x.2.2) (k op : Int) : ∃ p c, v = .slice p l.length c ∧ l.length ≤ c ∧ ∃ n, EAt w F n (mkE k op (l.map (·.1))) p := by
  obtain ⟨h1, h2⟩ := o
  rcases h2 with ⟨rfl, h0⟩ | ⟨g, cap, cur, rfl, hg, hh, hle, hm, hs, ht⟩
  · obtain rfl : l = [] := List.length_eq_zero_iff.1 h0
    exact ⟨none, 0, rfl, Nat.zero_le _, 0, rfl⟩
  · refine ⟨_, cap, rfl, hle, eat_cons (hF g hg) (Lib.frozen_of_heap hh) (fun i hi => ?_)⟩
    have hi' : i < l.length := by simpa [mkE] using hi
    obtain ⟨kk, hk, hq⟩ := he l[i] (List.getElem_mem _)
    have e1 : (mkE k op (l.map (·.1))).xs[i] = l[i].1 := by simp [mkE]
    rw [e1]
    refine ⟨l[i].2.1, l[i].2.2, kk, ?_, hk, hq⟩
    have key : ∀ j u, j < 10 → (cell10 l[i])[j]? = some u → w.cell? ⟨g, i * 10 + j, none⟩ = some u := by
      intro j u hj hu
      have e := cellsX_at l i hi' j hj
      rw [hu, ← ht, List.getElem?_take, if_pos (by omega), Array.getElem?_toList] at e
      simp [World.cell?, hh, e]
    exact ⟨key 0 _ (by decide) rfl, key 1 _ (by decide) rfl, key 2 _ (by decide) rfl, key 3 _ (by decide) rfl, key 4 _ (by decide) rfl, key 5 _ (by decide) rfl, key 6 _ (by decide) rfl, key 7 _ (by decide) rfl, key 8 _ (by decide) rfl, key 9 _ (by decide) rfl⟩
theorem OE.one (w : World) (base : Nat) (t : EL) (hb : base ≤ w.heap.size) : OE (w.alloc (.cells (cell10 t).toArray 26)) base (.slice (some ⟨w.heap.size, 0, none⟩) 1 1) [t] := by
  refine ⟨?_, Or.inr ⟨w.heap.size, 1, (cell10 t).toArray, rfl, hb, heap_alloc_new w _, Nat.le_refl _, ?_, ?_, ?_⟩⟩
  · simp [cellsX, cell10]
  · decide
  · simp [cell10]
  · simp [cellsX, cell10]
theorem OE.own {w : World} {base : Nat} {v : Value} {l : List EL} (o : OE w base v l) (h : 1 ≤ l.length) : ∃ g, v.ownBlock = some g ∧ base ≤ g ∧ g < w.heap.size := by
  obtain ⟨h1, h2⟩ := o
  rcases h2 with ⟨rfl, h0⟩ | ⟨g, cap, cur, rfl, hg, hh, _⟩
  · omega
  · exact ⟨g, rfl, hg, (Array.getElem?_eq_some_iff.1 hh).1⟩
end Go.Proofs.YtblkhlhhlalbkaaGreatDoor
namespace Go.Proofs.YtblkhlhhlalbkaaGreatDoor
open Go.RowKit Go.Lib Go.Sort
set_option linter.unusedVariables false
set_option maxRecDepth 20000

/-- A row of expressions that was read. -/
def QL (n : Nat) (w : World) (v : Value) (es : List Ex) : Prop := ∃ els : List EL, es = els.map (·.1) ∧ OE w n v els ∧ ∀ x ∈ els, ∃ k, EAt w (n ≤ ·) k x.1 x.2.1 ∧ x.1.xs.length ≤ x.2.2
def slen : Value → Nat
  | .slice _ n _ => n
  | _ => 0
theorem orV_eq (rb : Nat) : rowV rb 23 = .func (.func 142) #[] #[.pointer (some ⟨rb + 25, 0, none⟩), .pointer (some ⟨rb + 23, 0, none⟩), .pointer (some ⟨rb + 24, 0, none⟩)] := rfl
theorem OE.form {w : World} {base : Nat} {v : Value} {l : List EL} (o : OE w base v l) : ∃ p c, v = .slice p l.length c := by
  obtain ⟨h1, h2⟩ := o
  rcases h2 with ⟨rfl, h0⟩ | ⟨g, cap, cur, rfl, _⟩
  · exact ⟨none, 0, by rw [h0]⟩
  · exact ⟨_, cap, rfl⟩
theorem OE.lt {w : World} {base : Nat} {p : Option Addr} {n c : Nat} {l : List EL} (o : OE w base (.slice p n c) l) : n = l.length := by
  obtain ⟨p', c', e⟩ := o.form
  cases e
  rfl
set_option maxHeartbeats 16000000 in
theorem operands_any {w : World} {rb : Nat} {p : Option Addr} {c : Nat} {xs l : Ts} {d : Nat} {g : Ts → Rd Ex} (cnt : Nat) (hc1 : 1 ≤ cnt) (hc3 : cnt ≤ 3) (h : RS w rb p c xs l d) (hG : LineOk rb p c xs d 142 #[.pointer (some ⟨rb + 25, 0, none⟩), .pointer (some ⟨rb + 23, 0, none⟩), .pointer (some ⟨rb + 24, 0, none⟩)] g) :
    Calls Tryz.prog 178 #[.pointer (some ⟨rb, 0, none⟩), .int .i64 (cnt : Int)] w (RdE (QL w.heap.size) rb p c xs d (opsP g cnt l) w) := by
  have HH := hid h
  have hlt := h.lt
  have HGG := hid hG
  have HP := hid (hG _ _ h)
  unfold RdE QX QF at HP
  have c3 := h.c3
  rw [orV_eq] at c3
  unfold opsP
  clear h hG
  cases hg : g l with
  | error x =>
    rw [hg] at HP
    simp only [] at HP ⊢
    go_enter Tryz.func178, Tryz.ntmps178
    go_wp2_with (first
      | (go_at_call 142; go_loud (with_reducible refine HP.out.mono ?_); rintro e1 w1 ⟨c1, b1, rfl, f1⟩)
      | fail)
    exact ⟨rfl, c1, b1, rfl, f1⟩
  | ok y =>
    obtain ⟨e, l1⟩ := y
    rw [hg] at HP
    simp only [] at HP ⊢
    obtain ⟨R, HR⟩ : ∃ R, Hid (opsL g (cnt - 1) [e] l1 = R) := ⟨_, rfl⟩
    rw [HR.out]
    clear hg
    go_enter Tryz.func178, Tryz.ntmps178
    go_wp2_with (first
      | (go_at_call 142; go_loud (with_reducible refine HP.out.mono ?_); rintro e1 w1 ⟨c1, v1, rfl, ⟨pe, ce, rfl, k1, E1, hcp1⟩, r1⟩; have C1 := hid c1; have HE1 := hid E1; have HR1 := hid r1; have hs1 := c1.size; clear c1 E1 r1)
      | fail)
    go_loopw [5] (fun s5 wr => ∃ (els : List EL) (l' : Ts), OE wr w.heap.size s5 els ∧ (∀ x ∈ els, ∃ k, EAt wr (fun j => w.heap.size ≤ j ∧ s5.ownBlock ≠ some j) k x.1 x.2.1 ∧ x.1.xs.length ≤ x.2.2) ∧ RS wr rb p c xs l' d ∧ Chg (· = rb) w wr ∧ opsL g (cnt - els.length) (els.map (·.1)) l' = R ∧ 1 ≤ els.length ∧ els.length ≤ cnt) (fun s5 _ => cnt - slen s5)
    case atStart =>
      have A := albl w1 (.cells #[.int .i64 e.k, .int .i64 e.op, .int .i64 e.v.k, .int .i64 e.v.n, .string e.v.s, .string ⟨e.t.toArray⟩, .string ⟨e.n.toArray⟩, .int .i64 0, .int .i64 0, .slice pe e.xs.length ce] 26)
      refine ⟨[(e, pe, ce)], l1, OE.one w1 _ (e, pe, ce) hs1, ?_, HR1.out.below A, chg_trans C1.out (chg_below A), HR.out, Nat.le_refl _, hc1⟩
      intro x hx
      obtain rfl : x = (e, pe, ce) := by simpa using hx
      have h1 := HE1.out.mono (G := fun j => w.heap.size ≤ j ∧ j < w1.heap.size) (fun j hj q => ⟨q, hj⟩)
      exact ⟨k1, h1.newer A (fun j q => ⟨q.1, by simp [Value.ownBlock]; omega⟩), hcp1⟩
    case round =>
      clear HR HE1 HR1 C1 HP c3
      obtain ⟨els, l', hO, hes, hrs, hch, hR, h1, hle⟩ := hrel
      obtain ⟨pv, cv, rfl⟩ := hO.form
      have HO := hid hO
      have HES := hid hes
      have HRS := hid hrs
      have HCH := hid hch
      have HRR := hid hR
      have hltr := hrs.lt
      have hwr := hch.size
      clear hO hes hch hR
      by_cases hlc : els.length < cnt
      · have hlI : (els.length : Int) < (cnt : Int) := by omega
        obtain ⟨m, hm⟩ : ∃ m, cnt - els.length = m + 1 := ⟨cnt - els.length - 1, by omega⟩
        have HM := hid (must_any 5 [44] hrs (by decide))
        unfold RdE mustU at HM
        cases hs : stn 5 [44] l' with
        | false =>
          rw [hs] at HM
          simp only [Bool.false_eq_true, if_false] at HM
          have HRE : Hid (R = .error (l', 20)) := by show _ = _; rw [← HRR.out, hm]; simp [opsL, hs]
          clear hrs
          go_wp2_with (first
            | (go_at_call 175; go_loud (with_reducible refine HM.out.mono ?_); rintro e2 w2 ⟨c2, b2, rfl, f2⟩)
            | fail)
          rw [HRE.out]
          exact ⟨rfl, chg_trans HCH.out c2, b2, rfl, f2⟩
        | true =>
          rw [hs] at HM
          simp only [if_true] at HM
          have HGT := hid (fun w' (r : RS w' rb p c xs l'.tail d) => HGG.out w' _ r)
          unfold RdE QX QF at HGT
          clear hrs
          cases hgt : g l'.tail with
          | error x =>
            rw [hgt] at HGT
            simp only [] at HGT
            have HRE : Hid (R = .error x) := by show _ = _; rw [← HRR.out, hm]; simp [opsL, hs, hgt]
            go_wp2_with (first
              | (go_at_call 175; go_loud (with_reducible refine HM.out.mono ?_); rintro e2 w2 ⟨c2, v2, rfl, rfl, r2⟩; have C2 := hid c2; have c3 := r2.c3; rw [orV_eq] at c3; have GG := hid (HGT.out _ r2); clear c2 r2)
              | (go_at_call 142; go_loud (with_reducible refine GG.out.mono ?_); rintro e4 w4 ⟨c4, b4, rfl, f4⟩)
              | fail)
            rw [HRE.out]
            exact ⟨rfl, chg_trans HCH.out (chg_trans C2.out c4), b4, rfl, f4⟩
          | ok y =>
            obtain ⟨e, l2⟩ := y
            rw [hgt] at HGT
            simp only [] at HGT
            have HRE : Hid (R = opsL g m (els.map (·.1) ++ [e]) l2) := by show _ = _; rw [← HRR.out, hm]; simp [opsL, hs, hgt]
            go_wp2_with (first
              | (go_at_call 175; go_loud (with_reducible refine HM.out.mono ?_); rintro e2 w2 ⟨c2, v2, rfl, rfl, r2⟩; have C2 := hid c2; have c3 := r2.c3; rw [orV_eq] at c3; have GG := hid (HGT.out _ r2); clear c2 r2)
              | (go_at_call 142; go_loud (with_reducible refine GG.out.mono ?_); rintro e4 w4 ⟨c4, v4, rfl, ⟨pe, ce, rfl, k4, E4, hcp4⟩, r4⟩; have C4 := hid (chg_trans C2.out c4); have HE4 := hid E4; have HR4 := hid r4; have O4 := hid (HO.out.chg (chg_trans C2.out c4) (fun g q r => by omega)); have hs4 := (chg_trans C2.out c4).size; have hs2 := C2.out.size; clear c4 E4 r4)
              | (at_builtin; go_loud (refine oeApp _ w.heap.size _ _ _ (.slice pv els.length cv) els (e, pe, ce) rfl rfl rfl rfl (by simp) O4.out (by omega) (by omega) ?_); intro v6 w6 O6 c6 b6; have HO6 := hid O6; have C6 := hid c6; have B6 := hid b6; clear O6 c6 b6)
              | fail)
            obtain ⟨gr, hgr, hgb, hgl⟩ := HO.out.own h1
            have hgl4 : gr < w4.heap.size := by omega
            obtain ⟨p6, q6, hv6⟩ := HO6.out.form
            subst hv6
            have CG : Chg (· = gr) w4 w6 := C6.out.mono (fun j _ q => by rw [hgr] at q; exact (Option.some.inj q).symm)
            go_roundw
            case rel =>
              refine ⟨els ++ [(e, pe, ce)], l2, HO6.out, ?_, HH.out.fresh HR4.out hgb CG, chg_new (chg_trans HCH.out C4.out) hgb CG, ?_, by simp, by simp; omega⟩
              · intro x hx
                have fin : ∀ j, w.heap.size ≤ j → j ≠ gr → j < w4.heap.size → w.heap.size ≤ j ∧ (Value.slice p6 (els ++ [(e, pe, ce)]).length q6).ownBlock ≠ some j := fun j q1 q2 q3 => by
                  refine ⟨q1, fun q => ?_⟩
                  rcases B6.out with b | b
                  · rw [q, hgr] at b; exact q2 (Option.some.inj b)
                  · rw [q] at b; have := Option.some.inj b; omega
                rcases List.mem_append.1 hx with hx | hx
                · obtain ⟨k, hk, hq⟩ := HES.out x hx
                  have h1 := hk.keep (F' := fun j => (w.heap.size ≤ j ∧ j ≠ gr) ∧ j < wr.heap.size) C4.out (fun j q r => by omega) (fun j q r => ⟨⟨q.1, fun z => q.2 (by rw [hgr, z])⟩, r⟩)
                  exact ⟨k, (h1.chg CG (fun j q r => q.1.2 r)).mono (fun j _ q => fin j q.1.1 q.1.2 (by omega)), hq⟩
                · obtain rfl : x = (e, pe, ce) := by simpa using hx
                  have h1 := HE4.out.mono (G := fun j => w2.heap.size ≤ j ∧ j < w4.heap.size) (fun j hj q => ⟨q, hj⟩)
                  exact ⟨k4, (h1.chg CG (fun j q r => by omega)).mono (fun j _ q => fin j (by omega) (by omega) q.2), hcp4⟩
              · rw [HRE.out]
                simp only [List.map_append, List.map_cons, List.map_nil, List.length_append, List.length_cons, List.length_nil]
                rw [show cnt - (els.length + (0 + 1)) = m by omega]
            case measure =>
              simp only [slen, List.length_append, List.length_cons, List.length_nil]
              omega
      · have hlI : ¬ (els.length : Int) < (cnt : Int) := by omega
        have HRE : Hid (R = .ok (els.map (·.1), l')) := by
          show _ = _
          rw [← HRR.out, show cnt - els.length = 0 by omega]
          rfl
        clear hrs
        go_wp2_with fail
        go_ret
        rw [HRE.out]
        exact ⟨HCH.out, _, rfl, ⟨els, rfl, HO.out, fun x hx => by obtain ⟨k, hk, hq⟩ := HES.out x hx; exact ⟨k, hk.mono (fun j _ q => q.1), hq⟩⟩, HRS.out⟩
end Go.Proofs.YtblkhlhhlalbkaaGreatDoor
