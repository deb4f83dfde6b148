/- What the document's own Literal answers: the same text as value.Literal. Conditions: its text is shorter than 2 to the 31st bytes; its number fits 64 bits. -/
import Derived.Test.YtkokpimabocobaaDoorRefCheck
import Derived.Test.YtkokpimabocobaaDoorRefNum
import Derived.Deep.AppendLies
import Derived.Deep.RegionLaw
namespace Go.Proofs.YtkokpimabocobaaDoor
open Go.RowKit Go.Lib Go.Sort
set_option linter.unusedVariables false

/-- A row of bytes that the call owns. -/
def OwnB (w : World) (base : Nat) (v : Value) (l : List UInt8) : Prop := w.ownsRow base 5 1 v l.length (byteCells l)

theorem conv_own {w : World} {base g cap : Nat} {l : List UInt8} (h : OwnB w base (.slice (some ⟨g, 0, none⟩) l.length cap) l) : (convert 38 9 (.slice (some ⟨g, 0, none⟩) l.length cap)).run Tryd.prog w = .ok (.string ⟨l.toArray⟩) w := by
  obtain ⟨_, h2⟩ := h
  rcases h2 with ⟨h0, _⟩ | ⟨g', cap', cur, hv, hg, hh, hle, hm, hs, ht⟩
  · cases h0
  · simp only [Value.slice.injEq, Option.some.injEq, Addr.mk.injEq, and_true, true_and] at hv
    obtain ⟨rfl, rfl⟩ := hv
    refine run_convert_bytes_back (P := Tryd.prog) w 38 9 5 ⟨g, 0, none⟩ cap l Tryd.underlying38 Tryd.underlying5 Tryd.underlying9 (fun j hj => ?_)
    have hu : (byteCells l)[j]? = some (.int .u8 l[j].toNat) := by simp [byteCells, hj]
    rw [← ht, List.getElem?_take, if_pos (by omega), Array.getElem?_toList] at hu
    rw [show (⟨g, 0, none⟩ : Addr).add j = ⟨g, 0 + j, none⟩ by unfold Addr.add; split <;> simp_all]
    simp [World.cell?, hh, hu]

theorem own_made (w : World) (base : Nat) (l : List UInt8) (cs : Array Value) (hcs : cs.toList = byteCells l) (hb : base ≤ w.heap.size) (hm : l.length ≤ maxLen) :
    OwnB (w.alloc (.cells cs 5)) base (.slice (some ⟨w.heap.size, 0, none⟩) l.length l.length) l := by
  have hsz : cs.size = l.length := by rw [← Array.length_toList, hcs]; simp [byteCells]
  refine ⟨by simp [byteCells], Or.inr ⟨w.heap.size, l.length, cs, rfl, hb, heap_alloc_new w _, Nat.le_refl _, hm, by rw [hsz]; omega, ?_⟩⟩
  rw [hcs, List.take_of_length_le (by simp [byteCells])]

theorem byteCells_app (l m : List UInt8) : byteCells l ++ byteCells m = byteCells (l ++ m) := by simp [byteCells]
theorem byteCells_len (l : List UInt8) : (byteCells l).length = l.length := by simp [byteCells]
theorem byteCells_one (l : List UInt8) : ∀ u ∈ byteCells l, u.oneCell' = true := by
  intro u hu
  obtain ⟨c, _, rfl⟩ := List.mem_map.1 hu
  rfl
theorem rep_snoc : ∀ (l : List UInt8) (c : UInt8), rep (l ++ [c]) = rep l ++ (if c = 39 then [39, 39] else [c])
  | [], c => by simp [rep]
  | x :: l, c => by
    simp only [List.cons_append, rep]
    rw [rep_snoc l c]
    split <;> simp

/-- Behind the check of a right value. -/
def RChecks (k n : Int) (s : ByteArray) : Prop := ∀ w, Calls Tryd.prog 20 #[.agg #[.int .i64 k, .int .i64 n, .string s]] w fun e w' => e = .returned (.int .i64 0) ∧ Below w.heap.size w w'

set_option maxHeartbeats 400000 in
theorem refLit_bad (a : Val) (w : World) (hc : checkV a ≠ 0) :
    Calls Tryd.prog 13 #[a.v] w fun e w' => e = .returned (.string ⟨(litV a).toArray⟩) ∧ Below w.heap.size w w' := by
  have H2 : Hid (litV a = []) := if_pos hc
  have hch := fun w => refCheck_any a w
  have hc' : (checkV a != 0) = true := bne_iff_ne.2 hc
  obtain ⟨k, n, s⟩ := a
  generalize checkV ⟨k, n, s⟩ = c at *
  rw [H2.out]
  unfold Val.v at *
  have HC : Hid (∀ w, Calls Tryd.prog 20 #[.agg #[.int .i64 k, .int .i64 n, .string s]] w fun e w' => e = .returned (.int .i64 c) ∧ Below w.heap.size w w') := hch
  clear hch hc H2
  go_enter Tryd.func13, Tryd.ntmps13
  go_wp2_with (go_at_call 20; refine (HC.out _).mono ?_; rintro e w1 ⟨rfl, hb1⟩)
  go_ret
  exact ⟨rfl, (box_cells w w1 k n s hb1).2.2.2⟩

set_option maxHeartbeats 400000 in
theorem refLit_null (n : Int) (s : ByteArray) (w : World) (HC : RChecks 0 n s) :
    Calls Tryd.prog 13 #[.agg #[.int .i64 0, .int .i64 n, .string s]] w fun e w' => e = .returned (.string ⟨([78, 85, 76, 76] : List UInt8).toArray⟩) ∧ Below w.heap.size w w' := by
  go_enter Tryd.func13, Tryd.ntmps13
  go_wp2_with (first
    | (go_at_call 20; refine (HC _).mono ?_; rintro e w1 ⟨rfl, hb1⟩; obtain ⟨x0, x1, x2, B1⟩ := box_cells w w1 0 n s hb1; clear hb1))
  go_ret
  exact ⟨rfl, B1⟩

set_option maxHeartbeats 400000 in
theorem refLit_true (n : Int) (s : ByteArray) (w : World) (hn : n = 1) (HC : RChecks 1 n s) :
    Calls Tryd.prog 13 #[.agg #[.int .i64 1, .int .i64 n, .string s]] w fun e w' => e = .returned (.string ⟨([84, 82, 85, 69] : List UInt8).toArray⟩) ∧ Below w.heap.size w w' := by
  subst hn
  go_enter Tryd.func13, Tryd.ntmps13
  go_wp2_with (first
    | (go_at_call 20; refine (HC _).mono ?_; rintro e w1 ⟨rfl, hb1⟩; obtain ⟨x0, x1, x2, B1⟩ := box_cells w w1 1 1 s hb1; clear hb1))
  go_ret
  exact ⟨rfl, B1⟩

set_option maxHeartbeats 400000 in
theorem refLit_false (n : Int) (s : ByteArray) (w : World) (hn : n = 0) (HC : RChecks 1 n s) :
    Calls Tryd.prog 13 #[.agg #[.int .i64 1, .int .i64 n, .string s]] w fun e w' => e = .returned (.string ⟨([70, 65, 76, 83, 69] : List UInt8).toArray⟩) ∧ Below w.heap.size w w' := by
  subst hn
  go_enter Tryd.func13, Tryd.ntmps13
  go_wp2_with (first
    | (go_at_call 20; refine (HC _).mono ?_; rintro e w1 ⟨rfl, hb1⟩; obtain ⟨x0, x1, x2, B1⟩ := box_cells w w1 1 0 s hb1; clear hb1))
  go_ret
  exact ⟨rfl, B1⟩

set_option maxHeartbeats 400000 in
theorem refLit_int (n : Int) (s : ByteArray) (w : World) (hn0 : -9223372036854775808 ≤ n) (hn1 : n ≤ 9223372036854775807) (HC : RChecks 2 n s) :
    Calls Tryd.prog 13 #[.agg #[.int .i64 2, .int .i64 n, .string s]] w fun e w' => e = .returned (.string ⟨(itoa n).toArray⟩) ∧ Below w.heap.size w w' := by
  have HT := fun w => number_any n w hn0 hn1
  generalize (⟨(itoa n).toArray⟩ : ByteArray) = r at *
  have H3 : Hid (∀ w, Calls Tryd.prog 12 #[.int .i64 n] w fun e w' => e = .returned (.string r) ∧ Below w.heap.size w w') := HT
  clear HT hn0 hn1
  go_enter Tryd.func13, Tryd.ntmps13
  go_wp2_with (first
    | (go_at_call 20; refine (HC _).mono ?_; rintro e w1 ⟨rfl, hb1⟩; obtain ⟨x0, x1, x2, B1⟩ := box_cells w w1 2 n s hb1; clear hb1)
    | (go_at_call 12; refine (H3.out _).mono ?_; rintro e w2 ⟨rfl, B2⟩))
  go_ret
  exact ⟨rfl, B1.trans (B2.mono B1.size)⟩

theorem own_step {w' : World} {base : Nat} {l m : List UInt8} {g cap n k : Nat} (hn : n = l.length) (hk : k = m.length) (h : w'.ownsRow base 5 1 (.slice (some ⟨g, 0, none⟩) (n + k) cap) (n + k) (byteCells l ++ byteCells m)) :
    OwnB w' base (.slice (some ⟨g, 0, none⟩) (l ++ m).length cap) (l ++ m) := by
  subst hn hk
  unfold OwnB
  rw [List.length_append, ← byteCells_app]
  exact h

set_option maxHeartbeats 2000000 in
theorem refLit_text (n : Int) (s : ByteArray) (w : World) (hs : s.size ≤ 2147483648) (HC : RChecks 3 n s) :
    Calls Tryd.prog 13 #[.agg #[.int .i64 3, .int .i64 n, .string s]] w fun e w' => e = .returned (.string ⟨(39 :: (rep s.data.toList ++ [39])).toArray⟩) ∧ Below w.heap.size w w' := by
  obtain ⟨i0, hi, hz0, hz1, hz2⟩ := info_parts infoByte
  go_enter Tryd.func13, Tryd.ntmps13
  go_wp2_with (go_at_call 20; refine (HC _).mono ?_; rintro e w1 ⟨rfl, hb1⟩; obtain ⟨x0, x1, x2, B1⟩ := box_cells w w1 3 n s hb1; have hsz1 : w.heap.size < w1.heap.size := (by have := hb1.size; simp at this; omega); clear hb1)
  clear HC
  go_loopw [3, 4] (fun b i wr => ∃ (k : Nat) (g cap : Nat), k ≤ s.size ∧ i = .int .i64 k ∧ b = .slice (some ⟨g, 0, none⟩) (39 :: rep (s.data.toList.take k)).length cap ∧ OwnB wr (w.heap.size + 1) b (39 :: rep (s.data.toList.take k)) ∧ Below w.heap.size w wr ∧ w.heap.size < wr.heap.size ∧ wr.cell? ⟨w.heap.size, 0, none⟩ = some (.int .i64 3) ∧ wr.cell? ⟨w.heap.size, 2, none⟩ = some (.string s)) (fun _ i _ => s.size - (RowKit.intOf i).toNat)
  case atStart => exact ⟨0, w1.heap.size, 1, Nat.zero_le _, rfl, rfl, own_made w1 (w.heap.size + 1) [39] _ rfl hsz1 (by decide), B1.alloc B1.size _, by simp; omega, by go_simp, by go_simp⟩
  case round =>
    clear x0 x1 x2
    obtain ⟨k, g, cap, hk, rfl, rfl, hown, bel, hsz, x0, x2⟩ := hrel
    have hrl := (rep_length_le (s.data.toList.take k)).2
    have htl : (s.data.toList.take k).length ≤ k := List.length_take_le _ _
    by_cases hlt : k < s.size
    · have hnx := rep_snoc (s.data.toList.take k) s[k]
      rw [← take_snoc' s k hlt] at hnx
      have hlen : (39 :: rep (s.data.toList.take k)).length ≤ 4294967297 := by simp; omega
      have HO : Hid (OwnB wr (w.heap.size + 1) (.slice (some ⟨g, 0, none⟩) (39 :: rep (s.data.toList.take k)).length cap) (39 :: rep (s.data.toList.take k))) := hown
      have HN : Hid (rep (s.data.toList.take (k + 1)) = rep (s.data.toList.take k) ++ (if s[k] = 39 then [39, 39] else [s[k]])) := hnx
      clear hown hnx hrl htl
      generalize hg' : rep (s.data.toList.take (k + 1)) = l' at *
      have HG : Hid (rep (s.data.toList.take (k + 1)) = l') := hg'
      clear hg'
      generalize rep (s.data.toList.take k) = l at *
      by_cases hc : s[k] = 39
      · have hc1 : (((s[k].toNat : Nat) : Int) == 39) = true := by rw [hc]; rfl
        have HL : Hid (l' = l ++ [39, 39]) := HN.out.trans (by rw [if_pos hc])
        clear HN hc
        go_wp2_with (at_builtin; refine wpList_append_lies _ rfl _ _ 38 rfl (w.heap.size + 1) 5 i0 (.int .u8 0) 1 1 Tryd.underlying38 hi hz0 hz1 hz2 rfl (by decide) _ _ _ rfl (HO.out.alloc _) ⟨wr.heap.size, 0, none⟩ 2 2 (byteCells [39, 39]) rfl rfl ?c1 (byteCells_one _) (by decide) ?c3 ?c4 ?c5 _ rfl ?_)
        case c1 => exact World.news_of_block (heap_alloc_new wr _)
        case c3 => unfold maxLen; omega
        case c4 => omega
        case c5 => simp; omega
        intro g' cap' w3 hown' hgrow hat hlt'
        have HO' := own_step (m := [39, 39]) rfl rfl hown'
        rw [List.cons_append, ← HL.out] at HO'
        have y0 : w3.cell? ⟨w.heap.size, 0, none⟩ = some (.int .i64 3) := hgrow.cell (by go_simp) (fun e => absurd (HO.out.lt _ e.symm).1 (Nat.not_succ_le_self _))
        have y2 : w3.cell? ⟨w.heap.size, 2, none⟩ = some (.string s) := hgrow.cell (by go_simp) (fun e => absurd (HO.out.lt _ e.symm).1 (Nat.not_succ_le_self _))
        have B3 : Below w.heap.size w w3 := (bel.alloc (by omega) _).grown hgrow (by simp; omega) (fun k hk => by have := (HO.out.lt k hk).1; omega)
        have hsz3 : w.heap.size < w3.heap.size := by have := hgrow.size; simp at this; omega
        have HO2 : Hid (OwnB w3 (w.heap.size + 1) (.slice (some ⟨g', 0, none⟩) (39 :: l').length cap') (39 :: l')) := HO'
        have HQ : Hid (l.length + 1 + 2 = (39 :: l').length) := by show _ = _; rw [HL.out]; simp
        clear hown' hgrow hat hlt' HO' HO x0 x2 HL
        go_wp2
        go_roundw
        case rel => exact ⟨k + 1, g', cap', by omega, by go_num, by rw [HQ.out, HG.out], by rw [HQ.out, HG.out]; exact HO2.out, B3, hsz3, y0, y2⟩
        case measure => simp [RowKit.intOf]; omega
      · have hc1 : (((s[k].toNat : Nat) : Int) == 39) = false := beq_eq_false_iff_ne.2 (fun e => hc (UInt8.toNat_inj.1 (by show s[k].toNat = 39; omega)))
        have HL : Hid (l' = l ++ [s[k]]) := HN.out.trans (by rw [if_neg hc])
        clear HN hc
        go_wp2_with (at_builtin; refine wpList_append_lies _ rfl _ _ 38 rfl (w.heap.size + 1) 5 i0 (.int .u8 0) 1 1 Tryd.underlying38 hi hz0 hz1 hz2 rfl (by decide) _ _ _ rfl (HO.out.alloc _) ⟨wr.heap.size, 0, none⟩ 1 1 (byteCells [s[k]]) rfl rfl ?c1 (byteCells_one _) (by decide) ?c3 ?c4 ?c5 _ rfl ?_)
        case c1 => exact World.news_of_block (heap_alloc_new wr _)
        case c3 => unfold maxLen; omega
        case c4 => omega
        case c5 => simp; omega
        intro g' cap' w3 hown' hgrow hat hlt'
        have HO' := own_step (m := [s[k]]) rfl rfl hown'
        rw [List.cons_append, ← HL.out] at HO'
        have y0 : w3.cell? ⟨w.heap.size, 0, none⟩ = some (.int .i64 3) := hgrow.cell (by go_simp) (fun e => absurd (HO.out.lt _ e.symm).1 (Nat.not_succ_le_self _))
        have y2 : w3.cell? ⟨w.heap.size, 2, none⟩ = some (.string s) := hgrow.cell (by go_simp) (fun e => absurd (HO.out.lt _ e.symm).1 (Nat.not_succ_le_self _))
        have B3 : Below w.heap.size w w3 := (bel.alloc (by omega) _).grown hgrow (by simp; omega) (fun k hk => by have := (HO.out.lt k hk).1; omega)
        have hsz3 : w.heap.size < w3.heap.size := by have := hgrow.size; simp at this; omega
        have HO2 : Hid (OwnB w3 (w.heap.size + 1) (.slice (some ⟨g', 0, none⟩) (39 :: l').length cap') (39 :: l')) := HO'
        have HQ : Hid (l.length + 1 + 1 = (39 :: l').length) := by show _ = _; rw [HL.out]; simp
        clear hown' hgrow hat hlt' HO' HO x0 x2 HL
        go_wp2
        go_roundw
        case rel => exact ⟨k + 1, g', cap', by omega, by go_num, by rw [HQ.out, HG.out], by rw [HQ.out, HG.out]; exact HO2.out, B3, hsz3, y0, y2⟩
        case measure => simp [RowKit.intOf]; omega
    · have HL : Hid (s.data.toList.take k = s.data.toList) := List.take_of_length_le (by simp; omega)
      have hlen : (39 :: rep (s.data.toList.take k)).length ≤ 4294967297 := by simp; omega
      rw [HL.out] at hown hlen
      rw [HL.out]
      generalize hg' : rep s.data.toList = l at *
      have HG : Hid (rep s.data.toList = l) := hg'
      clear hg'
      have HO : Hid (OwnB wr (w.heap.size + 1) (.slice (some ⟨g, 0, none⟩) (39 :: l).length cap) (39 :: l)) := hown
      clear hown hrl htl HL
      go_wp2_with (at_builtin; refine wpList_append_lies _ rfl _ _ 38 rfl (w.heap.size + 1) 5 i0 (.int .u8 0) 1 1 Tryd.underlying38 hi hz0 hz1 hz2 rfl (by decide) _ _ _ rfl (HO.out.alloc _) ⟨wr.heap.size, 0, none⟩ 1 1 (byteCells [39]) rfl rfl ?c1 (byteCells_one _) (by decide) ?c3 ?c4 ?c5 _ rfl ?_)
      case c1 => exact World.news_of_block (heap_alloc_new wr _)
      case c3 => unfold maxLen; omega
      case c4 => omega
      case c5 => simp; omega
      intro g' cap' w3 hown' hgrow hat hlt'
      have hcv0 := conv_own (own_step (m := [39]) rfl rfl hown')
      have e2 : ((39 : UInt8) :: l ++ [39]).length = l.length + 1 + 1 := by simp
      rw [e2] at hcv0
      clear e2
      have hcv : (convert 38 9 (.slice (some ⟨g', 0, none⟩) (l.length + 1 + 1) cap')).run Tryd.prog w3 = .ok (.string ⟨(39 :: (l ++ [39])).toArray⟩) w3 := hcv0
      have B3 : Below w.heap.size w w3 := (bel.alloc (by omega) _).grown hgrow (by simp; omega) (fun k hk => by have := (HO.out.lt k hk).1; omega)
      clear hown' hgrow hat hlt' HO x0 x2 hcv0
      go_wp2
      go_ret
      exact ⟨by rw [HG.out]; rfl, B3⟩

set_option maxHeartbeats 2000000 in
theorem refLit_blob (n : Int) (s : ByteArray) (w : World) (hs : s.size ≤ 2147483648) (HC : RChecks 4 n s) :
    Calls Tryd.prog 13 #[.agg #[.int .i64 4, .int .i64 n, .string s]] w fun e w' => e = .returned (.string ⟨(88 :: 39 :: (hexL s.data.toList ++ [39])).toArray⟩) ∧ Below w.heap.size w w' := by
  obtain ⟨i0, hi, hz0, hz1, hz2⟩ := info_parts infoByte
  go_enter Tryd.func13, Tryd.ntmps13
  go_wp2_with (go_at_call 20; refine (HC _).mono ?_; rintro e w1 ⟨rfl, hb1⟩; obtain ⟨x0, x1, x2, B1⟩ := box_cells w w1 4 n s hb1; have hsz1 : w.heap.size < w1.heap.size := (by have := hb1.size; simp at this; omega); clear hb1)
  clear HC
  go_loopw [3, 4] (fun b i wr => ∃ (k : Nat) (g cap : Nat), k ≤ s.size ∧ i = .int .i64 k ∧ b = .slice (some ⟨g, 0, none⟩) (88 :: 39 :: hexL (s.data.toList.take k)).length cap ∧ OwnB wr (w.heap.size + 1) b (88 :: 39 :: hexL (s.data.toList.take k)) ∧ Below w.heap.size w wr ∧ w.heap.size < wr.heap.size ∧ wr.cell? ⟨w.heap.size, 0, none⟩ = some (.int .i64 4) ∧ wr.cell? ⟨w.heap.size, 2, none⟩ = some (.string s)) (fun _ i _ => s.size - (RowKit.intOf i).toNat)
  case atStart =>
    refine ⟨0, w1.heap.size + 1, 2, Nat.zero_le _, rfl, rfl, ?_, (B1.alloc B1.size _).alloc (by simp; omega) _, by simp; omega, by go_simp, by go_simp⟩
    have := own_made (w1.alloc (.cells #[.int .u8 39] 5)) (w.heap.size + 1) [88, 39] #[.int .u8 88, .int .u8 39] rfl (by simp; omega) (by decide)
    simpa [hexL] using this
  case round =>
    clear x0 x1 x2
    obtain ⟨k, g, cap, hk, rfl, rfl, hown, bel, hsz, x0, x2⟩ := hrel
    have hrl := hexL_length (s.data.toList.take k)
    have htl : (s.data.toList.take k).length ≤ k := List.length_take_le _ _
    by_cases hlt : k < s.size
    · have hnx := hexL_snoc (s.data.toList.take k) s[k]
      rw [← take_snoc' s k hlt] at hnx
      have hlen : (hexL (s.data.toList.take k)).length ≤ 4294967297 := by omega
      have HO : Hid (OwnB wr (w.heap.size + 1) (.slice (some ⟨g, 0, none⟩) (88 :: 39 :: hexL (s.data.toList.take k)).length cap) (88 :: 39 :: hexL (s.data.toList.take k))) := hown
      have HL : Hid (hexL (s.data.toList.take (k + 1)) = hexL (s.data.toList.take k) ++ [hexd (s[k].toNat / 16), hexd (s[k].toNat % 16)]) := hnx
      have h16 : s[k].toNat / 16 < 16 := by have := s[k].toNat_lt; omega
      have m16 : s[k].toNat % 16 < 16 := by omega
      clear hown hnx hrl htl
      generalize hg' : hexL (s.data.toList.take (k + 1)) = l' at *
      have HG : Hid (hexL (s.data.toList.take (k + 1)) = l') := hg'
      clear hg'
      generalize hexL (s.data.toList.take k) = l at *
      have q16 : (⟨#[48, 49, 50, 51, 52, 53, 54, 55, 56, 57, 65, 66, 67, 68, 69, 70]⟩ : ByteArray)[s[k].toNat / 16]'h16 = hexd (s[k].toNat / 16) := hexAt _ h16
      have r16 : (⟨#[48, 49, 50, 51, 52, 53, 54, 55, 56, 57, 65, 66, 67, 68, 69, 70]⟩ : ByteArray)[s[k].toNat % 16]'m16 = hexd (s[k].toNat % 16) := hexAt _ m16
      have hw1 : IntKind.u8.wrap ((s[k].toNat : Int) / 16) = (s[k].toNat : Int) / 16 := by simp only [IntKind.wrap_u8]; omega
      have hw2 : IntKind.u8.wrap ((s[k].toNat : Int) % 16) = (s[k].toNat : Int) % 16 := by simp only [IntKind.wrap_u8]; omega
      have hi1 : (s[k].toNat : Int) / 16 < 16 := by omega
      have hj1 : 0 ≤ (s[k].toNat : Int) / 16 := by omega
      have hj2 : 0 ≤ (s[k].toNat : Int) % 16 := by omega
      have htm : ((s[k].toNat : Nat) : Int).tmod 16 = (s[k].toNat : Int) % 16 := Int.tmod_eq_emod_of_nonneg (by omega)
      have hi2 : (s[k].toNat : Int) % 16 < 16 := by omega
      have ht1 : ((s[k].toNat : Int) / 16).toNat = s[k].toNat / 16 := by omega
      have ht2 : ((s[k].toNat : Int) % 16).toNat = s[k].toNat % 16 := by omega
      go_wp2
      go_region_law (refine step_append_lies _ rfl (.tmp 47) (.tmp 54) 38 rfl (w.heap.size + 1) 5 i0 (.int .u8 0) 1 1 Tryd.underlying38 hi hz0 hz1 hz2 rfl (by decide) (.slice (some ⟨g, 0, none⟩) (l.length + 1 + 1) cap) (l.length + 1 + 1) (byteCells (88 :: 39 :: l)) rfl (by first | exact (HO.out.alloc _).drew | exact HO.out.drew.alloc _) ⟨wr.heap.size, 0, none⟩ 2 2 (byteCells [hexd (s[k].toNat / 16), hexd (s[k].toNat % 16)]) rfl rfl (World.news_of_block (heap_alloc_new wr _)) (byteCells_one _) (by decide) (by unfold maxLen; omega) (by omega) (by simp; omega) _ rfl ?_; intro g' cap' w3 hown' hgrow hat hlt')
      all_goals
        have HO' := own_step (l := 88 :: 39 :: l) (m := [hexd (s[k].toNat / 16), hexd (s[k].toNat % 16)]) rfl rfl hown'
        rw [List.cons_append, List.cons_append, ← HL.out] at HO'
        have y0 : w3.cell? ⟨w.heap.size, 0, none⟩ = some (.int .i64 4) := hgrow.cell (by go_simp) (fun e => absurd (HO.out.lt _ e.symm).1 (Nat.not_succ_le_self _))
        have y2 : w3.cell? ⟨w.heap.size, 2, none⟩ = some (.string s) := hgrow.cell (by go_simp) (fun e => absurd (HO.out.lt _ e.symm).1 (Nat.not_succ_le_self _))
        have B3 : Below w.heap.size w w3 := ((bel.alloc (by omega) _).drew).grown hgrow (by simp; omega) (fun k hk => by have := (HO.out.lt k hk).1; omega)
        have hsz3 : w.heap.size < w3.heap.size := by have := hgrow.size; simp at this; omega
        have HO2 : Hid (OwnB w3 (w.heap.size + 1) (.slice (some ⟨g', 0, none⟩) (88 :: 39 :: l').length cap') (88 :: 39 :: l')) := HO'
        have HQ : Hid (l.length + 1 + 1 + 2 = (88 :: 39 :: l').length) := by show _ = _; rw [HL.out]; simp
        clear hown' hgrow hat hlt' HO' HO x0 x2 HL q16 r16 hw1 hw2 hi1 hi2 ht1 ht2 hj1 hj2 htm h16 m16
        go_wp2
        go_roundw
        case rel => exact ⟨k + 1, g', cap', by omega, by go_num, by rw [HQ.out, HG.out], by rw [HQ.out, HG.out]; exact HO2.out, B3, hsz3, y0, y2⟩
        case measure => simp [RowKit.intOf]; omega
    · have HL : Hid (s.data.toList.take k = s.data.toList) := List.take_of_length_le (by simp; omega)
      have hlen : (hexL (s.data.toList.take k)).length ≤ 4294967297 := by omega
      rw [HL.out] at hown hlen
      rw [HL.out]
      generalize hg' : hexL s.data.toList = l at *
      have HG : Hid (hexL s.data.toList = l) := hg'
      clear hg'
      have HO : Hid (OwnB wr (w.heap.size + 1) (.slice (some ⟨g, 0, none⟩) (88 :: 39 :: l).length cap) (88 :: 39 :: l)) := hown
      clear hown hrl htl HL
      go_wp2_with (at_builtin; refine wpList_append_lies _ rfl _ _ 38 rfl (w.heap.size + 1) 5 i0 (.int .u8 0) 1 1 Tryd.underlying38 hi hz0 hz1 hz2 rfl (by decide) _ _ _ rfl (HO.out.alloc _) ⟨wr.heap.size, 0, none⟩ 1 1 (byteCells [39]) rfl rfl ?c1 (byteCells_one _) (by decide) ?c3 ?c4 ?c5 _ rfl ?_)
      case c1 => exact World.news_of_block (heap_alloc_new wr _)
      case c3 => unfold maxLen; simp; omega
      case c4 => simp; omega
      case c5 => simp; omega
      intro g' cap' w3 hown' hgrow hat hlt'
      have hcv0 := conv_own (own_step (m := [39]) rfl rfl hown')
      have e2 : ((88 : UInt8) :: 39 :: l ++ [39]).length = l.length + 1 + 1 + 1 := by simp
      rw [e2] at hcv0
      clear e2
      have hcv : (convert 38 9 (.slice (some ⟨g', 0, none⟩) (l.length + 1 + 1 + 1) cap')).run Tryd.prog w3 = .ok (.string ⟨(88 :: 39 :: (l ++ [39])).toArray⟩) w3 := hcv0
      have B3 : Below w.heap.size w w3 := (bel.alloc (by omega) _).grown hgrow (by simp; omega) (fun k hk => by have := (HO.out.lt k hk).1; omega)
      clear hown' hgrow hat hlt' HO x0 x2 hcv0
      go_wp2
      go_ret
      exact ⟨by rw [HG.out]; rfl, B3⟩

theorem refLit_any (a : Val) (w : World) (hs : a.s.size ≤ 2147483648) (hn0 : -9223372036854775808 ≤ a.n) (hn1 : a.n ≤ 9223372036854775807) :
    Calls Tryd.prog 13 #[a.v] w fun e w' => e = .returned (.string ⟨(litV a).toArray⟩) ∧ Below w.heap.size w w' := by
  by_cases hc : checkV a = 0
  · obtain ⟨hk, hr⟩ := checkV_zero hc
    have hch : ∀ w, Calls Tryd.prog 20 #[a.v] w fun e w' => e = .returned (.int .i64 0) ∧ Below w.heap.size w w' := fun w => by have := refCheck_any a w; rw [hc] at this; exact this
    have hl : litV a = if a.k = 1 then (if a.n = 0 then [70, 65, 76, 83, 69] else [84, 82, 85, 69]) else if a.k = 2 then itoa a.n else if a.k = 3 then 39 :: (rep a.s.data.toList ++ [39]) else if a.k = 4 then 88 :: 39 :: (hexL a.s.data.toList ++ [39]) else [78, 85, 76, 76] := if_neg (by omega)
    rw [hl]
    clear hl hc
    obtain ⟨k, n, s⟩ := a
    simp only [] at hk hs hn0 hn1
    have hk5 : k = 0 ∨ k = 1 ∨ k = 2 ∨ k = 3 ∨ k = 4 := by omega
    rcases hk5 with rfl | rfl | rfl | rfl | rfl
    · exact refLit_null n s w hch
    · have h01 : n = 0 ∨ n = 1 := by
        simp only [Val.right, Bool.or_eq_true, Bool.and_eq_true, beq_iff_eq] at hr
        omega
      rcases h01 with h | h
      · subst h; exact refLit_false 0 s w rfl hch
      · subst h; exact refLit_true 1 s w rfl hch
    · exact refLit_int n s w hn0 hn1 hch
    · exact refLit_text n s w hs hch
    · exact refLit_blob n s w hs hch
  · exact refLit_bad a w hc
end Go.Proofs.YtkokpimabocobaaDoor
