/- What value.Literal answers: the value as it stands in a statement. Conditions: its text is shorter than 2 to the 31st bytes; the library's table of powers of ten lies in memory as its text lays it. -/
import Derived.Test.YtekapdpfbkdflaaGreatDoorValCheck
import Derived.Test.YtekapdpfbkdflaaGreatDoorValHex
import Derived.Test.YtekapdpfbkdflaaGreatDoorLitPlain
import Derived.Lib.SmallJoins
namespace Go.Proofs.YtekapdpfbkdflaaGreatDoor
open Go.RowKit Go.Lib Go.Sort
set_option linter.unusedVariables false
set_option maxRecDepth 20000

/-- What is written. -/
def litV (a : Val) : List UInt8 :=
  if checkV a ≠ 0 then [] else if a.k = 1 then (if a.n = 0 then [70, 65, 76, 83, 69] else [84, 82, 85, 69]) else if a.k = 2 then itoa a.n else
  if a.k = 3 then 39 :: (rep a.s.data.toList ++ [39]) else if a.k = 4 then 88 :: 39 :: (hexL a.s.data.toList ++ [39]) else [78, 85, 76, 76]

theorem truth_any (n : Int) (w : World) :
    Calls Tryz.prog 79 #[.int .i64 n] w fun e w' => e = .returned (.string ⟨(if n = 0 then [70, 65, 76, 83, 69] else [84, 82, 85, 69] : List UInt8).toArray⟩) ∧ w' = w := by
  by_cases h : n = 0
  · subst h
    go_enter Tryz.func79, Tryz.ntmps79
    go_wp2
    go_ret
    exact ⟨rfl, rfl⟩
  · have e : (n == 0) = false := beq_eq_false_iff_ne.2 h
    rw [if_neg h]
    clear h
    go_enter Tryz.func79, Tryz.ntmps79
    go_wp2
    go_ret
    exact ⟨rfl, rfl⟩

/-- What the library reads of its own variables. -/
structure Ready (w : World) : Prop where
  maxLen : ∃ m, w.cell? ⟨7, 0, none⟩ = some (.int .i64 m)
  pow : Lib.TabIs Tryz.prog w "internal/strconv.uint64pow10" .u64 Lib.pow10Tab

theorem gPow : Tryz.prog.globalNamed "internal/strconv.uint64pow10" = some 6 := by kernel_rfl

theorem Ready.below {w w' : World} (h : Ready w) (hb : Below w.heap.size w w') : Ready w' := by
  obtain ⟨⟨m, hm⟩, hp⟩ := h
  exact ⟨⟨m, below_cell hb hm⟩, Joins.tab_stays gPow hp hb (Nat.le_refl _)⟩

theorem ret_str {a : ByteArray} {l : List UInt8} (h : a.data.toList = l) : Ending.returned (.string a) = .returned (.string ⟨l.toArray⟩) := by
  obtain ⟨⟨x⟩⟩ := a
  simp only [] at h
  rw [h]

theorem box_cells (w w1 : World) (k n : Int) (s : ByteArray) (hb : Below (w.alloc (.cells #[.int .i64 k, .int .i64 n, .string s] 29)).heap.size (w.alloc (.cells #[.int .i64 k, .int .i64 n, .string s] 29)) w1) :
    w1.cell? ⟨w.heap.size, 0, none⟩ = some (.int .i64 k) ∧ w1.cell? ⟨w.heap.size, 1, none⟩ = some (.int .i64 n) ∧ w1.cell? ⟨w.heap.size, 2, none⟩ = some (.string s) ∧ Below w.heap.size w w1 :=
  ⟨below_cell hb (by go_simp), below_cell hb (by go_simp), below_cell hb (by go_simp), (show Below w.heap.size w (w.alloc _) by go_grown).trans (hb.mono (by simp))⟩

set_option maxHeartbeats 400000 in
theorem literal_bad (a : Val) (w : World) (hc : checkV a ≠ 0) :
    Calls Tryz.prog 40 #[a.v] w fun e w' => e = .returned (.string ⟨(litV a).toArray⟩) ∧ Below w.heap.size w w' := by
  have H2 : Hid (litV a = []) := if_pos hc
  have hch := fun w => check_any a w
  have hc' : (checkV a != 0) = true := bne_iff_ne.2 hc
  obtain ⟨k, n, s⟩ := a
  generalize checkV ⟨k, n, s⟩ = c at *
  rw [H2.out]
  unfold Val.v at *
  have HC : Hid (∀ w, Calls Tryz.prog 78 #[.agg #[.int .i64 k, .int .i64 n, .string s]] w fun e w' => e = .returned (.int .i64 c) ∧ Below w.heap.size w w') := hch
  clear hch hc H2
  go_enter Tryz.func40, Tryz.ntmps40
  go_wp2_with (go_at_call 78; refine (HC.out _).mono ?_; rintro e w1 ⟨rfl, hb1⟩)
  go_ret
  exact ⟨rfl, (box_cells w w1 k n s hb1).2.2.2⟩

/-- Behind the check of a right value. -/
def Checks (k n : Int) (s : ByteArray) : Prop := ∀ w, Calls Tryz.prog 78 #[.agg #[.int .i64 k, .int .i64 n, .string s]] w fun e w' => e = .returned (.int .i64 0) ∧ Below w.heap.size w w'

set_option maxHeartbeats 400000 in
theorem literal_null (n : Int) (s : ByteArray) (w : World) (HC : Checks 0 n s) :
    Calls Tryz.prog 40 #[.agg #[.int .i64 0, .int .i64 n, .string s]] w fun e w' => e = .returned (.string ⟨([78, 85, 76, 76] : List UInt8).toArray⟩) ∧ Below w.heap.size w w' := by
  go_enter Tryz.func40, Tryz.ntmps40
  go_wp2_with (go_at_call 78; refine (HC _).mono ?_; rintro e w1 ⟨rfl, hb1⟩; obtain ⟨x0, x1, x2, B1⟩ := box_cells w w1 0 n s hb1; clear hb1)
  go_ret
  exact ⟨rfl, B1⟩

set_option maxHeartbeats 400000 in
theorem literal_bool (n : Int) (s : ByteArray) (w : World) (HC : Checks 1 n s) :
    Calls Tryz.prog 40 #[.agg #[.int .i64 1, .int .i64 n, .string s]] w fun e w' => e = .returned (.string ⟨(if n = 0 then [70, 65, 76, 83, 69] else [84, 82, 85, 69] : List UInt8).toArray⟩) ∧ Below w.heap.size w w' := by
  have HT := fun w => truth_any n w
  generalize (⟨(if n = 0 then [70, 65, 76, 83, 69] else [84, 82, 85, 69] : List UInt8).toArray⟩ : ByteArray) = r at *
  have H3 : Hid (∀ w, Calls Tryz.prog 79 #[.int .i64 n] w fun e w' => e = .returned (.string r) ∧ w' = w) := HT
  clear HT
  go_enter Tryz.func40, Tryz.ntmps40
  go_wp2_with (first
    | (go_at_call 78; refine (HC _).mono ?_; rintro e w1 ⟨rfl, hb1⟩; obtain ⟨x0, x1, x2, B1⟩ := box_cells w w1 1 n s hb1; clear hb1)
    | (go_at_call 79; refine (H3.out _).mono ?_; rintro e w2 ⟨rfl, rfl⟩))
  go_ret
  exact ⟨rfl, B1⟩

set_option maxHeartbeats 400000 in
theorem literal_int (n : Int) (s : ByteArray) (w : World) (hw : Ready w) (hn0 : -9223372036854775808 ≤ n) (hn1 : n ≤ 9223372036854775807) (HC : Checks 2 n s) :
    Calls Tryz.prog 40 #[.agg #[.int .i64 2, .int .i64 n, .string s]] w fun e w' => e = .returned (.string ⟨(itoa n).toArray⟩) ∧ Below w.heap.size w w' := by
  have HT := fun w hw => Tryz.strconv_FormatInt_10 n hn0 hn1 w hw
  generalize (⟨(itoa n).toArray⟩ : ByteArray) = r at *
  have H3 : Hid (∀ w, Lib.TabIs Tryz.prog w "internal/strconv.uint64pow10" .u64 Lib.pow10Tab → Calls Tryz.prog 80 #[.int .i64 n, .int .i64 10] w fun e w' => e = .returned (.string r) ∧ ∃ k os, w' = grow (w.drewN k) os) := HT
  have HW : Hid (Ready w) := hw
  clear HT hw hn0 hn1
  go_enter Tryz.func40, Tryz.ntmps40
  go_wp2_with (first
    | (go_at_call 78; refine (HC _).mono ?_; rintro e w1 ⟨rfl, hb1⟩; obtain ⟨x0, x1, x2, B1⟩ := box_cells w w1 2 n s hb1; clear hb1)
    | (go_at_call 80; refine (H3.out _ (HW.out.below B1).pow).mono ?_; rintro e w2 ⟨rfl, kq, osq, hw2⟩
       have B2 : Below w1.heap.size w1 w2 := by rw [hw2]; exact below_regrown w1 (w1.drewN kq).drawn osq
       clear hw2))
  go_ret
  exact ⟨rfl, B1.trans (B2.mono B1.size)⟩

set_option maxHeartbeats 400000 in
theorem literal_text (n : Int) (s : ByteArray) (w : World) (hw : Ready w) (hs : s.size ≤ 2147483648) (HC : Checks 3 n s) :
    Calls Tryz.prog 40 #[.agg #[.int .i64 3, .int .i64 n, .string s]] w fun e w' => e = .returned (.string ⟨(39 :: (rep s.data.toList ++ [39])).toArray⟩) ∧ Below w.heap.size w w' := by
  have hcb := countB_le ⟨#[39]⟩ (by decide) s.size s (Nat.le_refl _)
  have HT : ∀ w m, w.cell? ⟨7, 0, none⟩ = some (.int .i64 m) → Calls Tryz.prog 81 #[.string s, .string ⟨#[39]⟩, .string ⟨#[39, 39]⟩] w fun e w' => e = .returned (.string ⟨(rep s.data.toList).toArray⟩) ∧ Below w.heap.size w w' := fun w m hm => by
    have := Tryz.strings_ReplaceAll s ⟨#[39]⟩ ⟨#[39, 39]⟩ m w (by omega) hm (by decide) (by
      have e2 : (⟨#[39, 39]⟩ : ByteArray).size = 2 := rfl
      rw [e2]; omega)
    rw [show ((⟨#[39]⟩ : ByteArray).data.toList) = [39] from rfl, show ((⟨#[39, 39]⟩ : ByteArray).data.toList) = [39, 39] from rfl, replaceAll_rep] at this
    exact this
  have hrl := (rep_length_le s.data.toList).2
  have hsl : s.data.toList.length = s.size := by simp
  have e4 : ∀ l : List UInt8, (39 :: (l ++ [39])).toArray = (⟨#[39]⟩ ++ ⟨l.toArray⟩ ++ ⟨#[39]⟩ : ByteArray).data := by
    intro l; simp
  rw [e4]
  have hrs : (⟨(rep s.data.toList).toArray⟩ : ByteArray).size ≤ 4294967296 := by simp [ByteArray.size]; omega
  generalize (⟨(rep s.data.toList).toArray⟩ : ByteArray) = r at *
  have H3 : Hid (∀ w m, w.cell? ⟨7, 0, none⟩ = some (.int .i64 m) → Calls Tryz.prog 81 #[.string s, .string ⟨#[39]⟩, .string ⟨#[39, 39]⟩] w fun e w' => e = .returned (.string r) ∧ Below w.heap.size w w') := HT
  have HW : Hid (Ready w) := hw
  clear HT hw hcb hrl hsl e4
  go_enter Tryz.func40, Tryz.ntmps40
  go_wp2_with (first
    | (go_at_call 78; refine (HC _).mono ?_; rintro e w1 ⟨rfl, hb1⟩; obtain ⟨x0, x1, x2, B1⟩ := box_cells w w1 3 n s hb1; clear hb1)
    | (go_at_call 81; obtain ⟨m, hm⟩ := (HW.out.below B1).maxLen; refine (H3.out _ m hm).mono ?_; rintro e w2 ⟨rfl, B2⟩; clear hm))
  go_ret
  exact ⟨rfl, B1.trans (B2.mono B1.size)⟩

set_option maxHeartbeats 400000 in
theorem literal_blob (n : Int) (s : ByteArray) (w : World) (hs : s.size ≤ 2147483648) (HC : Checks 4 n s) :
    Calls Tryz.prog 40 #[.agg #[.int .i64 4, .int .i64 n, .string s]] w fun e w' => e = .returned (.string ⟨(88 :: 39 :: (hexL s.data.toList ++ [39])).toArray⟩) ∧ Below w.heap.size w w' := by
  have HT := fun w => hex_any s w (by omega)
  have hrl := hexL_length s.data.toList
  have hsl : s.data.toList.length = s.size := by simp
  have e4 : ∀ l : List UInt8, (88 :: 39 :: (l ++ [39])).toArray = (⟨#[88, 39]⟩ ++ ⟨l.toArray⟩ ++ ⟨#[39]⟩ : ByteArray).data := by
    intro l; simp
  rw [e4]
  have hrs : (⟨(hexL s.data.toList).toArray⟩ : ByteArray).size ≤ 4294967296 := by simp [ByteArray.size]; omega
  generalize (⟨(hexL s.data.toList).toArray⟩ : ByteArray) = r at *
  have H3 : Hid (∀ w, Calls Tryz.prog 82 #[.string s] w fun e w' => e = .returned (.string r) ∧ Below w.heap.size w w') := HT
  clear HT hrl hsl e4
  go_enter Tryz.func40, Tryz.ntmps40
  go_wp2_with (first
    | (go_at_call 78; refine (HC _).mono ?_; rintro e w1 ⟨rfl, hb1⟩; obtain ⟨x0, x1, x2, B1⟩ := box_cells w w1 4 n s hb1; clear hb1)
    | (go_at_call 82; refine (H3.out _).mono ?_; rintro e w2 ⟨rfl, B2⟩))
  go_ret
  exact ⟨rfl, B1.trans (B2.mono B1.size)⟩

theorem checkV_zero {a : Val} (h : checkV a = 0) : ¬ (a.k < 0 ∨ 4 < a.k) ∧ a.right = true := by
  unfold checkV at h
  split at h
  · omega
  · split at h
    · exact ⟨by assumption, by assumption⟩
    · omega

theorem literal_any (a : Val) (w : World) (hw : Ready w) (hs : a.s.size ≤ 2147483648) (hn0 : -9223372036854775808 ≤ a.n) (hn1 : a.n ≤ 9223372036854775807) :
    Calls Tryz.prog 40 #[a.v] w fun e w' => e = .returned (.string ⟨(litV a).toArray⟩) ∧ Below w.heap.size w w' := by
  by_cases hc : checkV a = 0
  · have hk := (checkV_zero hc).1
    have hch : ∀ w, Calls Tryz.prog 78 #[a.v] w fun e w' => e = .returned (.int .i64 0) ∧ Below w.heap.size w w' := fun w => by have := check_any a w; rw [hc] at this; exact this
    have hl : litV a = if a.k = 1 then (if a.n = 0 then [70, 65, 76, 83, 69] else [84, 82, 85, 69]) else if a.k = 2 then itoa a.n else if a.k = 3 then 39 :: (rep a.s.data.toList ++ [39]) else if a.k = 4 then 88 :: 39 :: (hexL a.s.data.toList ++ [39]) else [78, 85, 76, 76] := if_neg (by omega)
    rw [hl]
    clear hl hc
    obtain ⟨k, n, s⟩ := a
    simp only [] at hk hs hn0 hn1
    have hk5 : k = 0 ∨ k = 1 ∨ k = 2 ∨ k = 3 ∨ k = 4 := by omega
    rcases hk5 with rfl | rfl | rfl | rfl | rfl
    · exact literal_null n s w hch
    · exact literal_bool n s w hch
    · exact literal_int n s w hw hn0 hn1 hch
    · exact literal_text n s w hw hs hch
    · exact literal_blob n s w hs hch
  · exact literal_bad a w hc
end Go.Proofs.YtekapdpfbkdflaaGreatDoor
