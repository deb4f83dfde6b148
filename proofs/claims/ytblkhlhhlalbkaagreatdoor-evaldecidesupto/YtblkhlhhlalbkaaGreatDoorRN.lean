/- What value.Type and the document's own Type and Number answer. Condition: the number fits 64 bits. What the document's own Literal answers: the same text as value.Literal. Conditions: its text is shorter than 2 to the 31st bytes; its number fits 64 bits. -/
import Derived.Test.YtblkhlhhlalbkaaGreatDoorVL
import Derived.Lib.ItoaLen
import Derived.Test.YtblkhlhhlalbkaaGreatDoorVC
import Derived.Deep.AppendLies
import Derived.Deep.RegionLaw
namespace Go.Proofs.YtblkhlhhlalbkaaGreatDoor
open Go.RowKit Go.Lib Go.Sort
set_option linter.unusedVariables false

def typeL (t : Int) : List UInt8 := if t = 0 then [78, 85, 76, 76] else if t = 1 then [66, 79, 79, 76] else if t = 2 then [73, 78, 84] else if t = 3 then [84, 69, 88, 84] else if t = 4 then [66, 76, 79, 66] else []

/-- The last digit. -/
def dgt (v : Nat) : UInt8 := UInt8.ofNat (48 + v % 10)
/-- What is left to write, and what is written. -/
def Tail (u v : Nat) (l : List UInt8) : Prop := decDigits u = if v = 0 then l else decDigits v ++ l
theorem Tail.start (u : Nat) : Tail u (u / 10) [dgt u] := by
  unfold Tail dgt
  by_cases h : u < 10
  · rw [if_pos (by omega), decDigits_one h, Nat.mod_eq_of_lt h]
  · rw [if_neg (by omega), decDigits, dif_neg h]
theorem Tail.next {u v : Nat} {l : List UInt8} (h : Tail u v l) (hv : 0 < v) : Tail u (v / 10) (dgt v :: l) := by
  unfold Tail at *
  rw [h, if_neg (by omega)]
  have := Tail.start v
  unfold Tail at this
  rw [this]
  by_cases h0 : v / 10 = 0
  · rw [if_pos h0, if_pos h0]; rfl
  · rw [if_neg h0, if_neg h0, List.append_assoc]; rfl
theorem Tail.short {u v : Nat} {l : List UInt8} (h : Tail u v l) (hu : u < 18446744073709551616) : l.length ≤ 20 := by
  have h1 := nDigits_le20 u hu
  rw [← decDigits_length] at h1
  unfold Tail at h
  rw [h] at h1
  split at h1
  · exact h1
  · rw [List.length_append] at h1; omega

theorem one_byte_text (v : Nat) (w : World) : (convert 93 9 (.slice (some ⟨w.heap.size, 0, none⟩) 1 1)).run Tryz.prog (w.alloc (.cells #[.int .u8 (48 + (v : Int) % 10)] 5)) = .ok (.string ⟨#[dgt v]⟩) (w.alloc (.cells #[.int .u8 (48 + (v : Int) % 10)] 5)) := by
  have h := run_convert_bytes_back (P := Tryz.prog) (w.alloc (.cells #[.int .u8 (48 + (v : Int) % 10)] 5)) 93 9 5 ⟨w.heap.size, 0, none⟩ 1 [UInt8.ofNat (48 + v % 10)] Tryz.underlying93 Tryz.underlying5 Tryz.underlying9 (fun j hj => by
    have hj0 : j = 0 := by simp at hj; omega
    subst hj0
    have e : ((UInt8.ofNat (48 + v % 10)).toNat : Int) = 48 + (v : Int) % 10 := by simp [UInt8.toNat_ofNat']; omega
    simp only [List.getElem_cons_zero]
    rw [e]
    simp [Addr.add])
  exact h

set_option maxHeartbeats 1000000 in
theorem digits_any (u : Nat) (w : World) (hu : u < 18446744073709551616) :
    Calls Tryz.prog 74 #[.int .u64 u] w fun e w' => e = .returned (.string ⟨(decDigits u).toArray⟩) ∧ Below w.heap.size w w' := by
  have hc := one_byte_text u
  go_enter Tryz.func74, Tryz.ntmps74
  go_wp2
  clear hc
  go_loopw [0, 3] (fun n s wr => ∃ (v : Nat) (l : List UInt8), n = .int .u64 v ∧ s = .string ⟨l.toArray⟩ ∧ v < 18446744073709551616 ∧ Tail u v l ∧ Below w.heap.size w wr) (fun n _ _ => (RowKit.intOf n).toNat)
  case atStart => exact ⟨u / 10, _, by go_num, rfl, by omega, Tail.start u, by go_grown⟩
  case round =>
    obtain ⟨v, l, rfl, rfl, hv, ht, bel⟩ := hrel
    have hl := ht.short hu
    by_cases h0 : v = 0
    · have HT : Hid (decDigits u = l) := ht.trans (if_pos h0)
      have h0' : ¬ 0 < v := by omega
      clear ht h0
      go_wp2
      go_ret
      exact ⟨ret_str (show (⟨l.toArray⟩ : ByteArray).data.toList = decDigits u from HT.out.symm), bel⟩
    · have hpos : 0 < v := by omega
      have HN : Hid (Tail u (v / 10) (dgt v :: l)) := ht.next hpos
      have hsz : (⟨l.toArray⟩ : ByteArray).size ≤ 20 := by simpa [ByteArray.size] using hl
      have hc := one_byte_text v
      have HJ : Hid ((⟨#[dgt v]⟩ ++ ⟨l.toArray⟩ : ByteArray) = ⟨(dgt v :: l).toArray⟩) := by
        show _ = _
        apply congrArg ByteArray.mk
        simp
      clear ht hl
      generalize (⟨l.toArray⟩ : ByteArray) = r at *
      go_wp2
      go_roundw
      case rel => exact ⟨v / 10, dgt v :: l, by go_num, congrArg Value.string HJ.out, by omega, HN.out, bel.alloc bel.size _⟩
      case measure => simp [RowKit.intOf]; omega

set_option maxHeartbeats 1000000 in
theorem refNum01_any (n : Int) (w : World) (h0 : -9223372036854775808 ≤ n) (h1 : n ≤ 9223372036854775807) :
    Calls Tryz.prog 60 #[.int .i64 n] w fun e w' => e = .returned (.string ⟨(itoa n).toArray⟩) ∧ Below w.heap.size w w' := by
  by_cases hn : n < 0
  · have e : itoa n = 45 :: decDigits n.natAbs := by unfold itoa; rw [if_pos hn]
    have hd := fun w => digits_any n.natAbs w (by omega)
    have hl := nDigits_le20 n.natAbs (by omega)
    rw [← decDigits_length] at hl
    rw [e]
    have hr : (⟨(decDigits n.natAbs).toArray⟩ : ByteArray).size ≤ 20 := by simpa [ByteArray.size] using hl
    have e4 : ∀ l : List UInt8, (45 :: l).toArray = (⟨#[45]⟩ ++ ⟨l.toArray⟩ : ByteArray).data := by intro l; simp
    rw [e4]
    generalize (⟨(decDigits n.natAbs).toArray⟩ : ByteArray) = r at *
    have ew : IntKind.u64.wrap (-IntKind.u64.wrap n) = (n.natAbs : Int) := by simp only [IntKind.wrap_u64]; omega
    rw [← ew] at hd
    have HD : Hid (∀ w, Calls Tryz.prog 74 #[.int .u64 (IntKind.u64.wrap (-IntKind.u64.wrap n))] w fun e w' => e = .returned (.string r) ∧ Below w.heap.size w w') := hd
    clear hd e e4 hl ew
    go_enter Tryz.func60, Tryz.ntmps60
    go_wp2_with fail
    refine (HD.out _).mono ?_
    rintro e w1 ⟨rfl, B1⟩
    go_wp2
    go_ret
    exact ⟨rfl, B1⟩
  · have e : itoa n = decDigits n.toNat := by unfold itoa; rw [if_neg hn]
    rw [e]
    have HD : Hid (∀ w, Calls Tryz.prog 74 #[.int .u64 n] w fun e w' => e = .returned (.string ⟨(decDigits n.toNat).toArray⟩) ∧ Below w.heap.size w w') := fun w => by
      have := digits_any n.toNat w (by omega)
      rw [show ((n.toNat : Nat) : Int) = n by omega] at this
      exact this
    generalize (⟨(decDigits n.toNat).toArray⟩ : ByteArray) = r at *
    clear e
    go_enter Tryz.func60, Tryz.ntmps60
    go_wp2_with fail
    refine (HD.out _).mono ?_
    rintro e w1 ⟨rfl, B1⟩
    go_wp2
    go_ret
    exact ⟨rfl, B1⟩
end Go.Proofs.YtblkhlhhlalbkaaGreatDoor
namespace Go.Proofs.YtblkhlhhlalbkaaGreatDoor
open Go.RowKit Go.Lib Go.Sort
set_option linter.unusedVariables false

/-- A row of bytes that the call owns. -/
def OwnB (w : World) (base : Nat) (v : Value) (l : List UInt8) : Prop := w.ownsRow base 5 1 v l.length (byteCells l)

theorem conv_own {w : World} {base g cap : Nat} {l : List UInt8} (h : OwnB w base (.slice (some ⟨g, 0, none⟩) l.length cap) l) : (convert 93 9 (.slice (some ⟨g, 0, none⟩) l.length cap)).run Tryz.prog w = .ok (.string ⟨l.toArray⟩) w := by
  obtain ⟨_, h2⟩ := h
  rcases h2 with ⟨h0, _⟩ | ⟨g', cap', cur, hv, hg, hh, hle, hm, hs, ht⟩
  · cases h0
  · simp only [Value.slice.injEq, Option.some.injEq, Addr.mk.injEq, and_true, true_and] at hv
    obtain ⟨rfl, rfl⟩ := hv
    refine run_convert_bytes_back (P := Tryz.prog) w 93 9 5 ⟨g, 0, none⟩ cap l Tryz.underlying93 Tryz.underlying5 Tryz.underlying9 (fun j hj => ?_)
    have hu : (byteCells l)[j]? = some (.int .u8 l[j].toNat) := by simp [byteCells, hj]
    rw [← ht, List.getElem?_take, if_pos (by omega), Array.getElem?_toList] at hu
    rw [show (⟨g, 0, none⟩ : Addr).add j = ⟨g, 0 + j, none⟩ by unfold Addr.add; split <;> simp_all]
    simp [World.cell?, hh, hu]

theorem own_made (w : World) (base : Nat) (l : List UInt8) (cs : Array Value) (hcs : cs.toList = byteCells l) (hb : base ≤ w.heap.size) (hm : l.length ≤ maxLen) :
    OwnB (w.alloc (.cells cs 5)) base (.slice (some ⟨w.heap.size, 0, none⟩) l.length l.length) l := by
  have hsz : cs.size = l.length := by rw [← Array.length_toList, hcs]; simp [byteCells]
  refine ⟨by simp [byteCells], Or.inr ⟨w.heap.size, l.length, cs, rfl, hb, heap_alloc_new w _, Nat.le_refl _, hm, by rw [hsz]; omega, ?_⟩⟩
  rw [hcs, List.take_of_length_le (by simp [byteCells])]

theorem byteCells_app (l m : List UInt8) : byteCells l ++ byteCells m = byteCells (l ++ m) := by simp [byteCells]
theorem byteCells_len (l : List UInt8) : (byteCells l).length = l.length := by simp [byteCells]
theorem byteCells_one (l : List UInt8) : ∀ u ∈ byteCells l, u.oneCell' = true := by
  intro u hu
  obtain ⟨c, _, rfl⟩ := List.mem_map.1 hu
  rfl
theorem rep_snoc : ∀ (l : List UInt8) (c : UInt8), rep (l ++ [c]) = rep l ++ (if c = 39 then [39, 39] else [c])
  | [], c => by simp [rep]
  | x :: l, c => by
    simp only [List.cons_append, rep]
    rw [rep_snoc l c]
    split <;> simp

/-- Behind the check of a right value. -/
def RChecks (k n : Int) (s : ByteArray) : Prop := ∀ w, Calls Tryz.prog 10 #[.agg #[.int .i64 k, .int .i64 n, .string s]] w fun e w' => e = .returned (.int .i64 0) ∧ Below w.heap.size w w'

set_option maxHeartbeats 400000 in
theorem refLit_bad (a : Val) (w : World) (hc : checkV a ≠ 0) :
    Calls Tryz.prog 34 #[a.v] w fun e w' => e = .returned (.string ⟨(litV a).toArray⟩) ∧ Below w.heap.size w w' := by
  have H2 : Hid (litV a = []) := if_pos hc
  have hch := fun w => refCheck_any a w
  have hc' : (checkV a != 0) = true := bne_iff_ne.2 hc
  obtain ⟨k, n, s⟩ := a
  generalize checkV ⟨k, n, s⟩ = c at *
  rw [H2.out]
  unfold Val.v at *
  have HC : Hid (∀ w, Calls Tryz.prog 10 #[.agg #[.int .i64 k, .int .i64 n, .string s]] w fun e w' => e = .returned (.int .i64 c) ∧ Below w.heap.size w w') := hch
  clear hch hc H2
  go_enter Tryz.func34, Tryz.ntmps34
  go_wp2_with (go_at_call 10; refine (HC.out _).mono ?_; rintro e w1 ⟨rfl, hb1⟩)
  go_ret
  exact ⟨rfl, (box_cells w w1 k n s hb1).2.2.2⟩

set_option maxHeartbeats 400000 in
theorem refLit_null (n : Int) (s : ByteArray) (w : World) (HC : RChecks 0 n s) :
    Calls Tryz.prog 34 #[.agg #[.int .i64 0, .int .i64 n, .string s]] w fun e w' => e = .returned (.string ⟨([78, 85, 76, 76] : List UInt8).toArray⟩) ∧ Below w.heap.size w w' := by
  go_enter Tryz.func34, Tryz.ntmps34
  go_wp2_with (first
    | (go_at_call 10; refine (HC _).mono ?_; rintro e w1 ⟨rfl, hb1⟩; obtain ⟨x0, x1, x2, B1⟩ := box_cells w w1 0 n s hb1; clear hb1))
  go_ret
  exact ⟨rfl, B1⟩

set_option maxHeartbeats 400000 in
theorem refLit_true (n : Int) (s : ByteArray) (w : World) (hn : n = 1) (HC : RChecks 1 n s) :
    Calls Tryz.prog 34 #[.agg #[.int .i64 1, .int .i64 n, .string s]] w fun e w' => e = .returned (.string ⟨([84, 82, 85, 69] : List UInt8).toArray⟩) ∧ Below w.heap.size w w' := by
  subst hn
  go_enter Tryz.func34, Tryz.ntmps34
  go_wp2_with (first
    | (go_at_call 10; refine (HC _).mono ?_; rintro e w1 ⟨rfl, hb1⟩; obtain ⟨x0, x1, x2, B1⟩ := box_cells w w1 1 1 s hb1; clear hb1))
  go_ret
  exact ⟨rfl, B1⟩

set_option maxHeartbeats 400000 in
theorem refLit_false (n : Int) (s : ByteArray) (w : World) (hn : n = 0) (HC : RChecks 1 n s) :
    Calls Tryz.prog 34 #[.agg #[.int .i64 1, .int .i64 n, .string s]] w fun e w' => e = .returned (.string ⟨([70, 65, 76, 83, 69] : List UInt8).toArray⟩) ∧ Below w.heap.size w w' := by
  subst hn
  go_enter Tryz.func34, Tryz.ntmps34
  go_wp2_with (first
    | (go_at_call 10; refine (HC _).mono ?_; rintro e w1 ⟨rfl, hb1⟩; obtain ⟨x0, x1, x2, B1⟩ := box_cells w w1 1 0 s hb1; clear hb1))
  go_ret
  exact ⟨rfl, B1⟩

set_option maxHeartbeats 400000 in
theorem refLit_int (n : Int) (s : ByteArray) (w : World) (hn0 : -9223372036854775808 ≤ n) (hn1 : n ≤ 9223372036854775807) (HC : RChecks 2 n s) :
    Calls Tryz.prog 34 #[.agg #[.int .i64 2, .int .i64 n, .string s]] w fun e w' => e = .returned (.string ⟨(itoa n).toArray⟩) ∧ Below w.heap.size w w' := by
  have HT := fun w => refNum01_any n w hn0 hn1
  generalize (⟨(itoa n).toArray⟩ : ByteArray) = r at *
  have H3 : Hid (∀ w, Calls Tryz.prog 60 #[.int .i64 n] w fun e w' => e = .returned (.string r) ∧ Below w.heap.size w w') := HT
  clear HT hn0 hn1
  go_enter Tryz.func34, Tryz.ntmps34
  go_wp2_with (first
    | (go_at_call 10; refine (HC _).mono ?_; rintro e w1 ⟨rfl, hb1⟩; obtain ⟨x0, x1, x2, B1⟩ := box_cells w w1 2 n s hb1; clear hb1)
    | (go_at_call 60; refine (H3.out _).mono ?_; rintro e w2 ⟨rfl, B2⟩))
  go_ret
  exact ⟨rfl, B1.trans (B2.mono B1.size)⟩

theorem own_step {w' : World} {base : Nat} {l m : List UInt8} {g cap n k : Nat} (hn : n = l.length) (hk : k = m.length) (h : w'.ownsRow base 5 1 (.slice (some ⟨g, 0, none⟩) (n + k) cap) (n + k) (byteCells l ++ byteCells m)) :
    OwnB w' base (.slice (some ⟨g, 0, none⟩) (l ++ m).length cap) (l ++ m) := by
  subst hn hk
  unfold OwnB
  rw [List.length_append, ← byteCells_app]
  exact h

set_option maxHeartbeats 2000000 in
theorem refLit_text (n : Int) (s : ByteArray) (w : World) (hs : s.size ≤ 2147483648) (HC : RChecks 3 n s) :
    Calls Tryz.prog 34 #[.agg #[.int .i64 3, .int .i64 n, .string s]] w fun e w' => e = .returned (.string ⟨(39 :: (rep s.data.toList ++ [39])).toArray⟩) ∧ Below w.heap.size w w' := by
  obtain ⟨i0, hi, hz0, hz1, hz2⟩ := info_parts infoByte
  go_enter Tryz.func34, Tryz.ntmps34
  go_wp2_with (go_at_call 10; refine (HC _).mono ?_; rintro e w1 ⟨rfl, hb1⟩; obtain ⟨x0, x1, x2, B1⟩ := box_cells w w1 3 n s hb1; have hsz1 : w.heap.size < w1.heap.size := (by have := hb1.size; simp at this; omega); clear hb1)
  clear HC
  go_loopw [3, 4] (fun b i wr => ∃ (k : Nat) (g cap : Nat), k ≤ s.size ∧ i = .int .i64 k ∧ b = .slice (some ⟨g, 0, none⟩) (39 :: rep (s.data.toList.take k)).length cap ∧ OwnB wr (w.heap.size + 1) b (39 :: rep (s.data.toList.take k)) ∧ Below w.heap.size w wr ∧ w.heap.size < wr.heap.size ∧ wr.cell? ⟨w.heap.size, 0, none⟩ = some (.int .i64 3) ∧ wr.cell? ⟨w.heap.size, 2, none⟩ = some (.string s)) (fun _ i _ => s.size - (RowKit.intOf i).toNat)
  case atStart => exact ⟨0, w1.heap.size, 1, Nat.zero_le _, rfl, rfl, own_made w1 (w.heap.size + 1) [39] _ rfl hsz1 (by decide), B1.alloc B1.size _, by simp; omega, by go_simp, by go_simp⟩
  case round =>
    clear x0 x1 x2
    obtain ⟨k, g, cap, hk, rfl, rfl, hown, bel, hsz, x0, x2⟩ := hrel
    have hrl := (rep_length_le (s.data.toList.take k)).2
    have htl : (s.data.toList.take k).length ≤ k := List.length_take_le _ _
    by_cases hlt : k < s.size
    · have hnx := rep_snoc (s.data.toList.take k) s[k]
      rw [← take_snoc' s k hlt] at hnx
      have hlen : (39 :: rep (s.data.toList.take k)).length ≤ 4294967297 := by simp; omega
      have HO : Hid (OwnB wr (w.heap.size + 1) (.slice (some ⟨g, 0, none⟩) (39 :: rep (s.data.toList.take k)).length cap) (39 :: rep (s.data.toList.take k))) := hown
      have HN : Hid (rep (s.data.toList.take (k + 1)) = rep (s.data.toList.take k) ++ (if s[k] = 39 then [39, 39] else [s[k]])) := hnx
      clear hown hnx hrl htl
      generalize hg' : rep (s.data.toList.take (k + 1)) = l' at *
      have HG : Hid (rep (s.data.toList.take (k + 1)) = l') := hg'
      clear hg'
      generalize rep (s.data.toList.take k) = l at *
      by_cases hc : s[k] = 39
      · have hc1 : (((s[k].toNat : Nat) : Int) == 39) = true := by rw [hc]; rfl
        have HL : Hid (l' = l ++ [39, 39]) := HN.out.trans (by rw [if_pos hc])
        clear HN hc
        go_wp2_with (at_builtin; refine wpList_append_lies _ rfl _ _ 93 rfl (w.heap.size + 1) 5 i0 (.int .u8 0) 1 1 Tryz.underlying93 hi hz0 hz1 hz2 rfl (by decide) _ _ _ rfl (HO.out.alloc _) ⟨wr.heap.size, 0, none⟩ 2 2 (byteCells [39, 39]) rfl rfl ?c1 (byteCells_one _) (by decide) ?c3 ?c4 ?c5 _ rfl ?_)
        case c1 => exact World.news_of_block (heap_alloc_new wr _)
        case c3 => unfold maxLen; omega
        case c4 => omega
        case c5 => simp; omega
        intro g' cap' w3 hown' hgrow hat hlt'
        have HO' := own_step (m := [39, 39]) rfl rfl hown'
        rw [List.cons_append, ← HL.out] at HO'
        have y0 : w3.cell? ⟨w.heap.size, 0, none⟩ = some (.int .i64 3) := hgrow.cell (by go_simp) (fun e => absurd (HO.out.lt _ e.symm).1 (Nat.not_succ_le_self _))
        have y2 : w3.cell? ⟨w.heap.size, 2, none⟩ = some (.string s) := hgrow.cell (by go_simp) (fun e => absurd (HO.out.lt _ e.symm).1 (Nat.not_succ_le_self _))
        have B3 : Below w.heap.size w w3 := (bel.alloc (by omega) _).grown hgrow (by simp; omega) (fun k hk => by have := (HO.out.lt k hk).1; omega)
        have hsz3 : w.heap.size < w3.heap.size := by have := hgrow.size; simp at this; omega
        have HO2 : Hid (OwnB w3 (w.heap.size + 1) (.slice (some ⟨g', 0, none⟩) (39 :: l').length cap') (39 :: l')) := HO'
        have HQ : Hid (l.length + 1 + 2 = (39 :: l').length) := by show _ = _; rw [HL.out]; simp
        clear hown' hgrow hat hlt' HO' HO x0 x2 HL
        go_wp2
        go_roundw
        case rel => exact ⟨k + 1, g', cap', by omega, by go_num, by rw [HQ.out, HG.out], by rw [HQ.out, HG.out]; exact HO2.out, B3, hsz3, y0, y2⟩
        case measure => simp [RowKit.intOf]; omega
      · have hc1 : (((s[k].toNat : Nat) : Int) == 39) = false := beq_eq_false_iff_ne.2 (fun e => hc (UInt8.toNat_inj.1 (by show s[k].toNat = 39; omega)))
        have HL : Hid (l' = l ++ [s[k]]) := HN.out.trans (by rw [if_neg hc])
        clear HN hc
        go_wp2_with (at_builtin; refine wpList_append_lies _ rfl _ _ 93 rfl (w.heap.size + 1) 5 i0 (.int .u8 0) 1 1 Tryz.underlying93 hi hz0 hz1 hz2 rfl (by decide) _ _ _ rfl (HO.out.alloc _) ⟨wr.heap.size, 0, none⟩ 1 1 (byteCells [s[k]]) rfl rfl ?c1 (byteCells_one _) (by decide) ?c3 ?c4 ?c5 _ rfl ?_)
        case c1 => exact World.news_of_block (heap_alloc_new wr _)
        case c3 => unfold maxLen; omega
        case c4 => omega
        case c5 => simp; omega
        intro g' cap' w3 hown' hgrow hat hlt'
        have HO' := own_step (m := [s[k]]) rfl rfl hown'
        rw [List.cons_append, ← HL.out] at HO'
        have y0 : w3.cell? ⟨w.heap.size, 0, none⟩ = some (.int .i64 3) := hgrow.cell (by go_simp) (fun e => absurd (HO.out.lt _ e.symm).1 (Nat.not_succ_le_self _))
        have y2 : w3.cell? ⟨w.heap.size, 2, none⟩ = some (.string s) := hgrow.cell (by go_simp) (fun e => absurd (HO.out.lt _ e.symm).1 (Nat.not_succ_le_self _))
        have B3 : Below w.heap.size w w3 := (bel.alloc (by omega) _).grown hgrow (by simp; omega) (fun k hk => by have := (HO.out.lt k hk).1; omega)
        have hsz3 : w.heap.size < w3.heap.size := by have := hgrow.size; simp at this; omega
        have HO2 : Hid (OwnB w3 (w.heap.size + 1) (.slice (some ⟨g', 0, none⟩) (39 :: l').length cap') (39 :: l')) := HO'
        have HQ : Hid (l.length + 1 + 1 = (39 :: l').length) := by show _ = _; rw [HL.out]; simp
        clear hown' hgrow hat hlt' HO' HO x0 x2 HL
        go_wp2
        go_roundw
        case rel => exact ⟨k + 1, g', cap', by omega, by go_num, by rw [HQ.out, HG.out], by rw [HQ.out, HG.out]; exact HO2.out, B3, hsz3, y0, y2⟩
        case measure => simp [RowKit.intOf]; omega
    · have HL : Hid (s.data.toList.take k = s.data.toList) := List.take_of_length_le (by simp; omega)
      have hlen : (39 :: rep (s.data.toList.take k)).length ≤ 4294967297 := by simp; omega
      rw [HL.out] at hown hlen
      rw [HL.out]
      generalize hg' : rep s.data.toList = l at *
      have HG : Hid (rep s.data.toList = l) := hg'
      clear hg'
      have HO : Hid (OwnB wr (w.heap.size + 1) (.slice (some ⟨g, 0, none⟩) (39 :: l).length cap) (39 :: l)) := hown
      clear hown hrl htl HL
      go_wp2_with (at_builtin; refine wpList_append_lies _ rfl _ _ 93 rfl (w.heap.size + 1) 5 i0 (.int .u8 0) 1 1 Tryz.underlying93 hi hz0 hz1 hz2 rfl (by decide) _ _ _ rfl (HO.out.alloc _) ⟨wr.heap.size, 0, none⟩ 1 1 (byteCells [39]) rfl rfl ?c1 (byteCells_one _) (by decide) ?c3 ?c4 ?c5 _ rfl ?_)
      case c1 => exact World.news_of_block (heap_alloc_new wr _)
      case c3 => unfold maxLen; omega
      case c4 => omega
      case c5 => simp; omega
      intro g' cap' w3 hown' hgrow hat hlt'
      have hcv0 := conv_own (own_step (m := [39]) rfl rfl hown')
      have e2 : ((39 : UInt8) :: l ++ [39]).length = l.length + 1 + 1 := by simp
      rw [e2] at hcv0
      clear e2
      have hcv : (convert 93 9 (.slice (some ⟨g', 0, none⟩) (l.length + 1 + 1) cap')).run Tryz.prog w3 = .ok (.string ⟨(39 :: (l ++ [39])).toArray⟩) w3 := hcv0
      have B3 : Below w.heap.size w w3 := (bel.alloc (by omega) _).grown hgrow (by simp; omega) (fun k hk => by have := (HO.out.lt k hk).1; omega)
      clear hown' hgrow hat hlt' HO x0 x2 hcv0
      go_wp2
      go_ret
      exact ⟨by rw [HG.out]; rfl, B3⟩

set_option maxHeartbeats 2000000 in
theorem refLit_blob (n : Int) (s : ByteArray) (w : World) (hs : s.size ≤ 2147483648) (HC : RChecks 4 n s) :
    Calls Tryz.prog 34 #[.agg #[.int .i64 4, .int .i64 n, .string s]] w fun e w' => e = .returned (.string ⟨(88 :: 39 :: (hexL s.data.toList ++ [39])).toArray⟩) ∧ Below w.heap.size w w' := by
  obtain ⟨i0, hi, hz0, hz1, hz2⟩ := info_parts infoByte
  go_enter Tryz.func34, Tryz.ntmps34
  go_wp2_with (go_at_call 10; refine (HC _).mono ?_; rintro e w1 ⟨rfl, hb1⟩; obtain ⟨x0, x1, x2, B1⟩ := box_cells w w1 4 n s hb1; have hsz1 : w.heap.size < w1.heap.size := (by have := hb1.size; simp at this; omega); clear hb1)
  clear HC
  go_loopw [3, 4] (fun b i wr => ∃ (k : Nat) (g cap : Nat), k ≤ s.size ∧ i = .int .i64 k ∧ b = .slice (some ⟨g, 0, none⟩) (88 :: 39 :: hexL (s.data.toList.take k)).length cap ∧ OwnB wr (w.heap.size + 1) b (88 :: 39 :: hexL (s.data.toList.take k)) ∧ Below w.heap.size w wr ∧ w.heap.size < wr.heap.size ∧ wr.cell? ⟨w.heap.size, 0, none⟩ = some (.int .i64 4) ∧ wr.cell? ⟨w.heap.size, 2, none⟩ = some (.string s)) (fun _ i _ => s.size - (RowKit.intOf i).toNat)
  case atStart =>
    refine ⟨0, w1.heap.size + 1, 2, Nat.zero_le _, rfl, rfl, ?_, (B1.alloc B1.size _).alloc (by simp; omega) _, by simp; omega, by go_simp, by go_simp⟩
    have := own_made (w1.alloc (.cells #[.int .u8 39] 5)) (w.heap.size + 1) [88, 39] #[.int .u8 88, .int .u8 39] rfl (by simp; omega) (by decide)
    simpa [hexL] using this
  case round =>
    clear x0 x1 x2
    obtain ⟨k, g, cap, hk, rfl, rfl, hown, bel, hsz, x0, x2⟩ := hrel
    have hrl := hexL_length (s.data.toList.take k)
    have htl : (s.data.toList.take k).length ≤ k := List.length_take_le _ _
    by_cases hlt : k < s.size
    · have hnx := hexL_snoc (s.data.toList.take k) s[k]
      rw [← take_snoc' s k hlt] at hnx
      have hlen : (hexL (s.data.toList.take k)).length ≤ 4294967297 := by omega
      have HO : Hid (OwnB wr (w.heap.size + 1) (.slice (some ⟨g, 0, none⟩) (88 :: 39 :: hexL (s.data.toList.take k)).length cap) (88 :: 39 :: hexL (s.data.toList.take k))) := hown
      have HL : Hid (hexL (s.data.toList.take (k + 1)) = hexL (s.data.toList.take k) ++ [hexd (s[k].toNat / 16), hexd (s[k].toNat % 16)]) := hnx
      have h16 : s[k].toNat / 16 < 16 := by have := s[k].toNat_lt; omega
      have m16 : s[k].toNat % 16 < 16 := by omega
      clear hown hnx hrl htl
      generalize hg' : hexL (s.data.toList.take (k + 1)) = l' at *
      have HG : Hid (hexL (s.data.toList.take (k + 1)) = l') := hg'
      clear hg'
      generalize hexL (s.data.toList.take k) = l at *
      have q16 : (⟨#[48, 49, 50, 51, 52, 53, 54, 55, 56, 57, 65, 66, 67, 68, 69, 70]⟩ : ByteArray)[s[k].toNat / 16]'h16 = hexd (s[k].toNat / 16) := hexAt _ h16
      have r16 : (⟨#[48, 49, 50, 51, 52, 53, 54, 55, 56, 57, 65, 66, 67, 68, 69, 70]⟩ : ByteArray)[s[k].toNat % 16]'m16 = hexd (s[k].toNat % 16) := hexAt _ m16
      have hw1 : IntKind.u8.wrap ((s[k].toNat : Int) / 16) = (s[k].toNat : Int) / 16 := by simp only [IntKind.wrap_u8]; omega
      have hw2 : IntKind.u8.wrap ((s[k].toNat : Int) % 16) = (s[k].toNat : Int) % 16 := by simp only [IntKind.wrap_u8]; omega
      have hi1 : (s[k].toNat : Int) / 16 < 16 := by omega
      have hj1 : 0 ≤ (s[k].toNat : Int) / 16 := by omega
      have hj2 : 0 ≤ (s[k].toNat : Int) % 16 := by omega
      have htm : ((s[k].toNat : Nat) : Int).tmod 16 = (s[k].toNat : Int) % 16 := Int.tmod_eq_emod_of_nonneg (by omega)
      have hi2 : (s[k].toNat : Int) % 16 < 16 := by omega
      have ht1 : ((s[k].toNat : Int) / 16).toNat = s[k].toNat / 16 := by omega
      have ht2 : ((s[k].toNat : Int) % 16).toNat = s[k].toNat % 16 := by omega
      go_wp2
      go_region_law (refine step_append_lies _ rfl (.tmp 47) (.tmp 54) 93 rfl (w.heap.size + 1) 5 i0 (.int .u8 0) 1 1 Tryz.underlying93 hi hz0 hz1 hz2 rfl (by decide) (.slice (some ⟨g, 0, none⟩) (l.length + 1 + 1) cap) (l.length + 1 + 1) (byteCells (88 :: 39 :: l)) rfl (by first | exact (HO.out.alloc _).drew | exact HO.out.drew.alloc _) ⟨wr.heap.size, 0, none⟩ 2 2 (byteCells [hexd (s[k].toNat / 16), hexd (s[k].toNat % 16)]) rfl rfl (World.news_of_block (heap_alloc_new wr _)) (byteCells_one _) (by decide) (by unfold maxLen; omega) (by omega) (by simp; omega) _ rfl ?_; intro g' cap' w3 hown' hgrow hat hlt')
      all_goals
        have HO' := own_step (l := 88 :: 39 :: l) (m := [hexd (s[k].toNat / 16), hexd (s[k].toNat % 16)]) rfl rfl hown'
        rw [List.cons_append, List.cons_append, ← HL.out] at HO'
        have y0 : w3.cell? ⟨w.heap.size, 0, none⟩ = some (.int .i64 4) := hgrow.cell (by go_simp) (fun e => absurd (HO.out.lt _ e.symm).1 (Nat.not_succ_le_self _))
        have y2 : w3.cell? ⟨w.heap.size, 2, none⟩ = some (.string s) := hgrow.cell (by go_simp) (fun e => absurd (HO.out.lt _ e.symm).1 (Nat.not_succ_le_self _))
        have B3 : Below w.heap.size w w3 := ((bel.alloc (by omega) _).drew).grown hgrow (by simp; omega) (fun k hk => by have := (HO.out.lt k hk).1; omega)
        have hsz3 : w.heap.size < w3.heap.size := by have := hgrow.size; simp at this; omega
        have HO2 : Hid (OwnB w3 (w.heap.size + 1) (.slice (some ⟨g', 0, none⟩) (88 :: 39 :: l').length cap') (88 :: 39 :: l')) := HO'
        have HQ : Hid (l.length + 1 + 1 + 2 = (88 :: 39 :: l').length) := by show _ = _; rw [HL.out]; simp
        clear hown' hgrow hat hlt' HO' HO x0 x2 HL q16 r16 hw1 hw2 hi1 hi2 ht1 ht2 hj1 hj2 htm h16 m16
        go_wp2
        go_roundw
        case rel => exact ⟨k + 1, g', cap', by omega, by go_num, by rw [HQ.out, HG.out], by rw [HQ.out, HG.out]; exact HO2.out, B3, hsz3, y0, y2⟩
        case measure => simp [RowKit.intOf]; omega
    · have HL : Hid (s.data.toList.take k = s.data.toList) := List.take_of_length_le (by simp; omega)
      have hlen : (hexL (s.data.toList.take k)).length ≤ 4294967297 := by omega
      rw [HL.out] at hown hlen
      rw [HL.out]
      generalize hg' : hexL s.data.toList = l at *
      have HG : Hid (hexL s.data.toList = l) := hg'
      clear hg'
      have HO : Hid (OwnB wr (w.heap.size + 1) (.slice (some ⟨g, 0, none⟩) (88 :: 39 :: l).length cap) (88 :: 39 :: l)) := hown
      clear hown hrl htl HL
      go_wp2_with (at_builtin; refine wpList_append_lies _ rfl _ _ 93 rfl (w.heap.size + 1) 5 i0 (.int .u8 0) 1 1 Tryz.underlying93 hi hz0 hz1 hz2 rfl (by decide) _ _ _ rfl (HO.out.alloc _) ⟨wr.heap.size, 0, none⟩ 1 1 (byteCells [39]) rfl rfl ?c1 (byteCells_one _) (by decide) ?c3 ?c4 ?c5 _ rfl ?_)
      case c1 => exact World.news_of_block (heap_alloc_new wr _)
      case c3 => unfold maxLen; simp; omega
      case c4 => simp; omega
      case c5 => simp; omega
      intro g' cap' w3 hown' hgrow hat hlt'
      have hcv0 := conv_own (own_step (m := [39]) rfl rfl hown')
      have e2 : ((88 : UInt8) :: 39 :: l ++ [39]).length = l.length + 1 + 1 + 1 := by simp
      rw [e2] at hcv0
      clear e2
      have hcv : (convert 93 9 (.slice (some ⟨g', 0, none⟩) (l.length + 1 + 1 + 1) cap')).run Tryz.prog w3 = .ok (.string ⟨(88 :: 39 :: (l ++ [39])).toArray⟩) w3 := hcv0
      have B3 : Below w.heap.size w w3 := (bel.alloc (by omega) _).grown hgrow (by simp; omega) (fun k hk => by have := (HO.out.lt k hk).1; omega)
      clear hown' hgrow hat hlt' HO x0 x2 hcv0
      go_wp2
      go_ret
      exact ⟨by rw [HG.out]; rfl, B3⟩

theorem refLit_any (a : Val) (w : World) (hs : a.s.size ≤ 2147483648) (hn0 : -9223372036854775808 ≤ a.n) (hn1 : a.n ≤ 9223372036854775807) :
    Calls Tryz.prog 34 #[a.v] w fun e w' => e = .returned (.string ⟨(litV a).toArray⟩) ∧ Below w.heap.size w w' := by
  by_cases hc : checkV a = 0
  · obtain ⟨hk, hr⟩ := checkV_zero hc
    have hch : ∀ w, Calls Tryz.prog 10 #[a.v] w fun e w' => e = .returned (.int .i64 0) ∧ Below w.heap.size w w' := fun w => by have := refCheck_any a w; rw [hc] at this; exact this
    have hl : litV a = if a.k = 1 then (if a.n = 0 then [70, 65, 76, 83, 69] else [84, 82, 85, 69]) else if a.k = 2 then itoa a.n else if a.k = 3 then 39 :: (rep a.s.data.toList ++ [39]) else if a.k = 4 then 88 :: 39 :: (hexL a.s.data.toList ++ [39]) else [78, 85, 76, 76] := if_neg (by omega)
    rw [hl]
    clear hl hc
    obtain ⟨k, n, s⟩ := a
    simp only [] at hk hs hn0 hn1
    have hk5 : k = 0 ∨ k = 1 ∨ k = 2 ∨ k = 3 ∨ k = 4 := by omega
    rcases hk5 with rfl | rfl | rfl | rfl | rfl
    · exact refLit_null n s w hch
    · have h01 : n = 0 ∨ n = 1 := by
        simp only [Val.right, Bool.or_eq_true, Bool.and_eq_true, beq_iff_eq] at hr
        omega
      rcases h01 with h | h
      · subst h; exact refLit_false 0 s w rfl hch
      · subst h; exact refLit_true 1 s w rfl hch
    · exact refLit_int n s w hn0 hn1 hch
    · exact refLit_text n s w hs hch
    · exact refLit_blob n s w hs hch
  · exact refLit_bad a w hc
end Go.Proofs.YtblkhlhhlalbkaaGreatDoor
