/- What value.hex answers: two digits for each byte. Condition: the text takes at most 2 to the 46th bytes. Plain mathematics: blanks and a remark ahead of a text, and a remark behind it. No program is named here. No conditions. Plain mathematics: words that are written are the same words. No program is named here. No conditions. -/
import Derived.Test.YtblkhlhhlalbkaaGreatDoorShelf
import Derived.Test.YtblkhlhhlalbkaaGreatDoorChecked
import Derived.WalkKit
import Derived.Handy
import Derived.Lib.Builder
import Derived.Test.YtblkhlhhlalbkaaGreatDoorLA
import Derived.Test.YtblkhlhhlalbkaaGreatDoorLitPlain
namespace Go.Proofs.YtblkhlhhlalbkaaGreatDoor
open Go.RowKit Go.Lib
set_option linter.unusedVariables false
set_option maxRecDepth 20000

theorem infoBuilder : (Tryz.prog.info? 120).map (·.size) = some 2 := by kernel_rfl
theorem infoByte : (Tryz.prog.info? 5).map (fun i => (i.zero, i.size, i.bytes)) = some (some (.int .u8 0), 1, 1) := by kernel_rfl

set_option maxHeartbeats 400000 in
theorem copyCheck_used (b : Nat) (w : World) (h0 : w.cell? ⟨b, 0, none⟩ = some (.pointer (some ⟨b, 0, none⟩))) :
    Calls Tryz.prog 170 #[.pointer (some ⟨b, 0, none⟩)] w fun e w' => e = .returned (.tuple #[]) ∧ w' = w := by
  obtain ⟨j, hj, _⟩ := Option.map_eq_some_iff.1 infoBuilder
  go_enter Tryz.func170, Tryz.ntmps170
  go_wp2
  rw [Lib.run_neq_ptr_same w _ Tryz.underlying118 hj]
  go_wp2
  go_end0
  exact ⟨rfl, rfl⟩

set_option maxHeartbeats 1000000 in
theorem writeByte_any (B b : Nat) (bs : List Value) (c : Int) (w : World) (h : Lib.BuilderAt 120 5 B b (.pointer (some ⟨b, 0, none⟩)) bs w) (hlen : bs.length + 1 ≤ 140737488355328) (hBw : B ≤ w.heap.size) :
    Calls Tryz.prog 124 #[.pointer (some ⟨b, 0, none⟩), .int .u8 c] w fun e w' => e = .returned .nilIface ∧ Lib.BuilderAt 120 5 B b (.pointer (some ⟨b, 0, none⟩)) (bs ++ [.int .u8 c]) w' ∧ Below B w w' := by
  obtain ⟨i0, hi, hz0, hz1, hz2⟩ := info_parts infoByte
  have hc0 := h.cell0
  have hlt := h.lt
  obtain ⟨hB, v, hbk, hown, hne⟩ := h
  have c1 : w.cell? ⟨b, 1, none⟩ = some v := by rw [Lib.cell_of_heap hbk]; rfl
  go_enter Tryz.func124, Tryz.ntmps124
  go_wp2_with (first
    | (go_at_call 170; refine (copyCheck_used b _ hc0).mono ?_; rintro e w1 ⟨rfl, rfl⟩)
    | (at_builtin; refine wpList_append_own _ rfl _ _ 93 rfl B 5 i0 (.int .u8 0) 1 1 Tryz.underlying93 hi hz0 hz1 hz2 rfl (by decide) _ _ _ rfl (hown.alloc _) ⟨_, 0, none⟩ 1 1 [.int .u8 c] rfl rfl ?c1 ?c2 ?c3 ?c4 ?c5 ?_))
  case c1 =>
    intro j u hj
    match j, hj with
    | 0, hj => simp at hj; subst hj; simp [Addr.add]
  case c2 => intro u hu; simp at hu; subst hu; rfl
  case c3 => unfold maxLen; omega
  case c4 => omega
  case c5 => simp; omega
  intro v' w2 hown' hgrow _
  have hb2 : w2.heap[b]? = some (.cells #[.pointer (some ⟨b, 0, none⟩), v] 120 (0, 0)) := by
    rw [hgrow.block b (by simp; omega) (fun e => hne e.symm), Below.heap_alloc _ _ _ hlt]
    exact hbk
  have d0 : w2.cell? ⟨b, 0, none⟩ = some (.pointer (some ⟨b, 0, none⟩)) := by rw [Lib.cell_of_heap hb2]; rfl
  have d1 : w2.cell? ⟨b, 1, none⟩ = some v := by rw [Lib.cell_of_heap hb2]; rfl
  have f1 : w2.frozen? ⟨b, 1, none⟩ = false := Lib.frozen_of_heap hb2 1
  obtain ⟨g, cap, rfl⟩ : ∃ g cap, v' = .slice (some ⟨g, 0, none⟩) (bs.length + 1) cap := by
    rcases hown'.2 with ⟨_, h0⟩ | ⟨g, cap, cur, hv, _⟩
    · omega
    · exact ⟨g, cap, hv⟩
  go_wp2
  go_ret
  refine ⟨rfl, ?_, ?_⟩
  · exact Lib.BuilderAt.put hB hb2 (bs' := bs ++ [.int .u8 c]) (by simpa using hown') (by decide)
  · exact ((((Below.refl B _).alloc hBw _).grown hgrow (by simp; omega) (fun k hk => (hown.lt k hk).1))).setCell (p := ⟨b, 1, none⟩) hB _

/-- A digit of hex. -/
def hexd (n : Nat) : UInt8 := [48, 49, 50, 51, 52, 53, 54, 55, 56, 57, 65, 66, 67, 68, 69, 70].getD n 0
def hexL : List UInt8 → List UInt8
  | [] => []
  | c :: l => hexd (c.toNat / 16) :: hexd (c.toNat % 16) :: hexL l
theorem hexL_snoc : ∀ (l : List UInt8) (c : UInt8), hexL (l ++ [c]) = hexL l ++ [hexd (c.toNat / 16), hexd (c.toNat % 16)]
  | [], c => rfl
  | x :: l, c => by simp [hexL, hexL_snoc l c]
theorem hexL_length : ∀ l : List UInt8, (hexL l).length = 2 * l.length
  | [] => rfl
  | c :: l => by simp [hexL, hexL_length l]; omega

theorem hexAt : ∀ (n : Nat) (h : n < 16), (⟨#[48, 49, 50, 51, 52, 53, 54, 55, 56, 57, 65, 66, 67, 68, 69, 70]⟩ : ByteArray)[n]'h = hexd n := by decide
theorem byteCells_two (l : List UInt8) (c d : UInt8) : byteCells l ++ [.int .u8 c.toNat] ++ [.int .u8 d.toNat] = byteCells (l ++ [c, d]) := by simp [byteCells]
theorem take_snoc' (s : ByteArray) (k : Nat) (h : k < s.size) : s.data.toList.take (k + 1) = s.data.toList.take k ++ [s[k]] := by
  rw [List.take_succ_eq_append_getElem (by simpa using h)]; rfl

set_option maxHeartbeats 1000000 in
theorem hex_any (s : ByteArray) (w : World) (hs : s.size ≤ 70368744177664) :
    Calls Tryz.prog 154 #[.string s] w fun e w' => e = .returned (.string ⟨(hexL s.data.toList).toArray⟩) ∧ Below w.heap.size w w' := by
  go_enter Tryz.func154, Tryz.ntmps154
  go_wp2_with fail
  have G := Tryz.Builder_Grow_fresh_cap w.heap.size w.heap.size (2 * s.size) (w.alloc (.cells #[.pointer none, .slice none 0 0] 120)) (Nat.le_refl _) (heap_alloc_new w _) (by simp) (by omega)
  rw [show ((2 * s.size : Nat) : Int) = 2 * (s.size : Int) from by omega] at G
  refine G.mono ?_
  clear G
  rintro e w1 ⟨rfl, ⟨hb1, bel1⟩, _⟩
  have B1 : Below w.heap.size w w1 := ((Below.refl w.heap.size w).alloc (Nat.le_refl _) _).trans bel1
  clear bel1
  simp only []
  go_wp2
  go_loopw [11] (fun i wr => ∃ k : Nat, k ≤ s.size ∧ i = .int .i64 k ∧ Lib.BuilderAt 120 5 w.heap.size w.heap.size (.pointer (some ⟨w.heap.size, 0, none⟩)) (byteCells (hexL (s.data.toList.take k))) wr ∧ Below w.heap.size w wr) (fun i _ => s.size - (RowKit.intOf i).toNat)
  case atStart => exact ⟨0, Nat.zero_le _, rfl, hb1, B1⟩
  case round =>
    obtain ⟨k, hk, rfl, hb, bel⟩ := hrel
    by_cases hlt : k < s.size
    · have hsz : w.heap.size ≤ wr.heap.size := bel.size
      have h16 : s[k].toNat / 16 < 16 := by have := s[k].toNat_lt; omega
      have h16' : ((s[k].toNat : Int) / 16) < 16 := by omega
      have m16 : s[k].toNat % 16 < 16 := by omega
      have hlen : (byteCells (hexL (s.data.toList.take k))).length = 2 * k := by simp [byteCells, hexL_length]; omega
      have hnx : Hid (hexL (s.data.toList.take (k + 1)) = hexL (s.data.toList.take k) ++ [hexd (s[k].toNat / 16), hexd (s[k].toNat % 16)]) := by unfold Hid; rw [take_snoc' s k hlt, hexL_snoc]
      have Hl : Hid ((byteCells (hexL (s.data.toList.take k))).length = 2 * k) := hlen
      clear hlen
      go_wp2_with fail
      rw [hexAt _ h16]
      refine (writeByte_any w.heap.size w.heap.size _ _ _ hb (by rw [Hl.out]; omega) hsz).mono ?_
      rintro e w2 ⟨rfl, hb2, bel2⟩
      have hsz2 : w.heap.size ≤ w2.heap.size := Nat.le_trans hsz bel2.size
      go_wp2_with fail
      rw [hexAt _ m16]
      refine (writeByte_any w.heap.size w.heap.size _ _ _ hb2 (by rw [List.length_append, Hl.out]; simp; omega) hsz2).mono ?_
      rintro e w3 ⟨rfl, hb3, bel3⟩
      rw [byteCells_two, ← hnx.out] at hb3
      have B3 : Below w.heap.size w w3 := (bel.trans bel2).trans bel3
      clear hb hb2 bel bel2 bel3 hb1 B1
      go_wp2
      go_roundw
      case rel => exact ⟨k + 1, by omega, by go_num, hb3, B3⟩
      case measure => simp [RowKit.intOf]; omega
    · go_wp2_with (go_at_call 76; refine (Tryz.Builder_String_any w.heap.size w.heap.size _ _ (Or.inr hb) bel.size).mono ?_; rintro e w2 ⟨rfl, bel2⟩)
      go_ret
      rw [List.take_of_length_le (by simp; omega)]
      exact ⟨rfl, bel.trans bel2⟩
end Go.Proofs.YtblkhlhhlalbkaaGreatDoor
namespace Go.Proofs.YtblkhlhhlalbkaaGreatDoor
open Go.Lib
set_option linter.unusedVariables false
set_option maxRecDepth 20000

theorem cntW_rem (rest : List UInt8) : ∀ (R : List UInt8), (∀ c ∈ R, notLF c = true) → cntW notLF (R ++ 10 :: rest) = R.length
  | [], _ => by simp [cntW, notLF_10]
  | c :: r, h => by
    simp only [List.cons_append, cntW]
    rw [if_pos (h c (by simp)), cntW_rem rest r (fun x hx => h x (List.mem_cons_of_mem _ hx))]
    rfl
theorem toks_remark (R rest : List UInt8) (hR : ∀ c ∈ R, notLF c = true) (F i : Nat) (hF : (45 :: 45 :: R ++ 10 :: rest).length < F) : toks F (45 :: 45 :: R ++ 10 :: rest) i = toks F rest (i + R.length + 3) := by
  cases F with
  | zero => omega
  | succ G =>
    have hlen : (45 :: 45 :: R ++ 10 :: rest).length = R.length + rest.length + 3 := by simp; omega
    have hc := cntW_rem rest (45 :: 45 :: R) (fun c hc => by
      rcases List.mem_cons.1 hc with rfl | hc
      · decide
      · rcases List.mem_cons.1 hc with rfl | hc
        · decide
        · exact hR c hc)
    have e : (45 : UInt8) :: 45 :: R ++ 10 :: rest = 45 :: (45 :: R ++ 10 :: rest) := rfl
    rw [e, toks, ← e]
    rw [if_neg (by decide), if_pos (by rfl), hc]
    have hd : (45 :: 45 :: R ++ 10 :: rest).drop (45 :: 45 :: R).length = 10 :: rest := by
      rw [drop_app _ _ _ (Nat.le_refl _), List.drop_length]
      rfl
    rw [hd, toks_lf G rest _ (by rw [hlen] at hF; simp; omega), toks_fuel G (G + 1) _ _ (by rw [hlen] at hF; omega) (by rw [hlen] at hF; omega)]
    congr 1
theorem toks_ahead (rest : List UInt8) : ∀ (A : List UInt8), (∀ c ∈ A, blk (bi c) = true) → ∀ (F i : Nat), (A ++ rest).length < F → toks F (A ++ rest) i = toks F rest (i + A.length)
  | [], _, F, i, _ => rfl
  | c :: r, h, 0, i, hF => by omega
  | c :: r, h, G + 1, i, hF => by
    have hlen : (c :: r ++ rest).length = r.length + rest.length + 1 := by simp <;> omega
    rw [hlen] at hF
    rw [List.cons_append, toks, if_pos (h c (by simp)), toks_ahead rest r (fun x hx => h x (List.mem_cons_of_mem _ hx)) G (i + 1) (by simp; omega), toks_fuel G (G + 1) _ _ (by omega) (by omega)]
    rw [show i + 1 + r.length = i + (c :: r).length by simp <;> omega]
def tailE : List UInt8 := [32, 45, 45, 32, 101, 110, 100]
theorem toks_tail (F i : Nat) (hF : (10 :: tailE).length < F) : toks F (10 :: tailE) i = .ok [] := by
  rw [toks_fuel F 9 _ _ hF (by decide)]
  rfl
theorem addT_none (xs : List (Tk × Nat)) : addT xs (.ok []) = .ok xs := by simp [addT]
/-- The words of a text with blanks and remarks about it. -/
theorem toksOf_about (A R t : List UInt8) (hA : ∀ c ∈ A, blk (bi c) = true) (hR : ∀ c ∈ R, notLF c = true) :
    toksOf (A ++ (45 :: 45 :: R ++ 10 :: (t ++ 10 :: tailE))) = shT (A.length + R.length + 3) (toksOf t) := by
  have hl : (A ++ (45 :: 45 :: R ++ 10 :: (t ++ 10 :: tailE))).length = A.length + R.length + 3 + (t ++ 10 :: tailE).length := by simp; omega
  obtain ⟨F, hF⟩ : ∃ F, F = (A ++ (45 :: 45 :: R ++ 10 :: (t ++ 10 :: tailE))).length + 1 := ⟨_, rfl⟩
  unfold toksOf
  rw [← hF]
  rw [toks_ahead _ A hA F 0 (by omega), toks_remark R _ hR F _ (by simp at hl hF ⊢; omega)]
  have h2 := toks_sh (A.length + R.length + 3) F (t ++ 10 :: tailE) 0
  rw [show 0 + A.length + R.length + 3 = 0 + (A.length + R.length + 3) by omega, h2]
  congr 1
  have hT : (t ++ 10 :: tailE).length = t.length + 8 := by simp [tailE]
  cases h : toks (t.length + 1) t 0 with
  | ok xs =>
    rw [toks_app tailE _ t 0 xs (by omega) h F (by omega), toks_tail F _ (by simp [tailE]; omega), addT_none]
  | error j => exact toks_err tailE (by decide) _ t 0 j (by omega) h F (by omega)
end Go.Proofs.YtblkhlhhlalbkaaGreatDoor
namespace Go.Proofs.YtblkhlhhlalbkaaGreatDoor
open Go.Lib
set_option linter.unusedVariables false
set_option maxRecDepth 20000

/-- A word as it is written. -/
def prT (t : Tk) : List UInt8 :=
  if t.k = 1 ∨ t.k = 5 then t.s else if t.k = 2 then itoa t.n else if t.k = 3 then 39 :: (rep t.s ++ [39]) else 88 :: 39 :: (hexL t.s ++ [39])
/-- What holds of the words that are read. -/
def GoodT (t : Tk) : Prop :=
  (t.k = 1 ∧ t.n = 0 ∧ (∃ c r, t.s = c :: r ∧ ltr (bi c) = true) ∧ (∀ c ∈ t.s, isW c = true ∧ lowerB c = c)) ∨
  (t.k = 2 ∧ t.s = [] ∧ 0 ≤ t.n ∧ t.n ≤ 9223372036854775807) ∨
  (t.k = 3 ∧ t.n = 0) ∨ (t.k = 4 ∧ t.n = 0) ∨
  (t.k = 5 ∧ t.n = 0 ∧ ((∃ c, t.s = [c] ∧ is1 (bi c) = true) ∨ is2 t.s = true))

theorem isW_lower_fin : ∀ i : Fin 256, isW (UInt8.ofNat i.val) = true → isW (lowerB (UInt8.ofNat i.val)) = true ∧ lowerB (lowerB (UInt8.ofNat i.val)) = lowerB (UInt8.ofNat i.val) := by decide +kernel
theorem isW_lower (c : UInt8) : isW c = true → isW (lowerB c) = true ∧ lowerB (lowerB c) = lowerB c := by
  have h := isW_lower_fin ⟨c.toNat, c.toNat_lt⟩
  have e : UInt8.ofNat (⟨c.toNat, c.toNat_lt⟩ : Fin 256).val = c := by simp
  rw [e] at h
  exact h
theorem ltr_lower_fin : ∀ i : Fin 256, ltr (bi (UInt8.ofNat i.val)) = true → ltr (bi (lowerB (UInt8.ofNat i.val))) = true := by decide +kernel
theorem ltr_lower (c : UInt8) : ltr (bi c) = true → ltr (bi (lowerB c)) = true := by
  have h := ltr_lower_fin ⟨c.toNat, c.toNat_lt⟩
  have e : UInt8.ofNat (⟨c.toNat, c.toNat_lt⟩ : Fin 256).val = c := by simp
  rw [e] at h
  exact h
theorem cntW_allP (p : UInt8 → Bool) : ∀ (l : List UInt8), ∀ c ∈ l.take (cntW p l), p c = true
  | [], c, h => by simp at h
  | d :: r, c, h => by
    by_cases hd : p d = true
    · rw [cntW, if_pos hd, List.take_succ_cons] at h
      rcases List.mem_cons.1 h with rfl | h
      · exact hd
      · exact cntW_allP p r c h
    · rw [cntW, if_neg hd] at h
      simp at h
theorem cntW_stop (p : UInt8 → Bool) (d : UInt8) (hd : p d = false) (s : List UInt8) : ∀ (l : List UInt8), (∀ c ∈ l, p c = true) → cntW p (l ++ d :: s) = l.length
  | [], _ => by simp [cntW, hd]
  | c :: r, h => by
    simp only [List.cons_append, cntW]
    rw [if_pos (h c (by simp)), cntW_stop p d hd s r (fun x hx => h x (List.mem_cons_of_mem _ hx))]
    rfl
theorem first1_good {l : List UInt8} {t : Tk} {k : Nat} (h : first1 l = some (t, k)) : GoodT t := by
  cases l with
  | nil => simp [first1] at h
  | cons c r =>
    rw [first1_cons] at h
    split at h
    · rw [Option.map_eq_some_iff] at h
      obtain ⟨x, _, e⟩ := h
      cases e
      exact Or.inr (Or.inr (Or.inl ⟨rfl, rfl⟩))
    · split at h
      · rw [Option.map_eq_some_iff] at h
        obtain ⟨v, hv, e⟩ := h
        cases e
        refine Or.inr (Or.inl ⟨rfl, rfl, ?_, ?_⟩)
        · unfold numD at hv
          split at hv
          · cases hv; exact Int.natCast_nonneg _
          · cases hv
        · unfold numD at hv
          split at hv
          · rename_i hle; cases hv; show ((valD 0 _ : Nat) : Int) ≤ _; omega
          · cases hv
      · split at h
        · rw [Option.map_eq_some_iff] at h
          obtain ⟨x, _, e⟩ := h
          cases e
          exact Or.inr (Or.inr (Or.inr (Or.inl ⟨rfl, rfl⟩)))
        · split at h
          · rename_i hl
            cases h
            have hw : isW c = true := by unfold isW wrd; rw [hl]; rfl
            refine Or.inl ⟨rfl, rfl, ?_, fun x hx => ?_⟩
            · refine ⟨lowerB c, toLowerA (r.take (cntW isW r)), ?_, ltr_lower c hl⟩
              show toLowerA ((c :: r).take (cntW isW (c :: r))) = _
              rw [cntW, if_pos hw, List.take_succ_cons]
              rfl
            · obtain ⟨y, hy, rfl⟩ := List.mem_map.1 hx
              exact isW_lower y (cntW_allP isW _ y hy)
          · split at h
            · cases h
            · rename_i hs
              cases h
              refine Or.inr (Or.inr (Or.inr (Or.inr ⟨rfl, rfl, ?_⟩)))
              show (∃ d, (c :: r).take (sym (c :: r)) = [d] ∧ _) ∨ is2 ((c :: r).take (sym (c :: r))) = true
              have e : sym (c :: r) = if is2 (c :: r.take 1) then 2 else if is1 (bi c) then 1 else 0 := rfl
              by_cases h2 : is2 (c :: r.take 1) = true
              · right
                rw [e, if_pos h2]
                exact h2
              · left
                rw [if_neg h2] at e
                by_cases h1 : is1 (bi c) = true
                · rw [if_pos h1] at e
                  rw [e]
                  exact ⟨c, rfl, h1⟩
                · rw [if_neg h1] at e
                  exact absurd e hs

theorem toks_good : ∀ (f : Nat) (l : List UInt8) (i : Nat) (xs : List (Tk × Nat)), toks f l i = .ok xs → ∀ x ∈ xs, GoodT x.1
  | 0, _, _, xs, h, x, hx => by simp only [toks, Except.ok.injEq] at h; subst h; simp at hx
  | f + 1, [], i, xs, h, x, hx => by simp only [toks, Except.ok.injEq] at h; subst h; simp at hx
  | f + 1, c :: r, i, xs, h, x, hx => by
    rw [toks] at h
    by_cases hb : blk (bi c) = true
    · rw [if_pos hb] at h
      exact toks_good f r _ xs h x hx
    · rw [if_neg hb] at h
      by_cases hR : isR (c :: r) = true
      · rw [if_pos hR] at h
        exact toks_good f _ _ xs h x hx
      · rw [if_neg hR] at h
        cases h1 : first1 (c :: r) with
        | none => rw [h1] at h; simp at h
        | some y =>
          obtain ⟨t, k⟩ := y
          rw [h1] at h
          simp only [] at h
          cases h2 : toks f ((c :: r).drop k) (i + k) with
          | error j => rw [h2] at h; simp [Except.map] at h
          | ok ys =>
            rw [h2] at h
            simp only [Except.map, Except.ok.injEq] at h
            subst h
            rcases List.mem_cons.1 hx with rfl | hx
            · exact first1_good h1
            · exact toks_good f _ _ ys h2 x hx

theorem isW_32 : isW 32 = false := by decide
theorem isD_32 : isD 32 = false := by decide
theorem ltr_facts_fin : ∀ i : Fin 256, ltr (bi (UInt8.ofNat i.val)) = true → (bi (UInt8.ofNat i.val) == 39) = false ∧ dig (bi (UInt8.ofNat i.val)) = false ∧ blk (bi (UInt8.ofNat i.val)) = false ∧ (bi (UInt8.ofNat i.val) == 45) = false := by decide +kernel
theorem ltr_facts (c : UInt8) : ltr (bi c) = true → (bi c == 39) = false ∧ dig (bi c) = false ∧ blk (bi c) = false ∧ (bi c == 45) = false := by
  have h := ltr_facts_fin ⟨c.toNat, c.toNat_lt⟩
  have e : UInt8.ofNat (⟨c.toNat, c.toNat_lt⟩ : Fin 256).val = c := by simp
  rw [e] at h
  exact h
theorem isW_39_fin : ∀ i : Fin 256, isW (UInt8.ofNat i.val) = true → (bi (UInt8.ofNat i.val) == 39) = false := by decide +kernel
theorem isW_39 (c : UInt8) : isW c = true → (bi c == 39) = false := by
  have h := isW_39_fin ⟨c.toNat, c.toNat_lt⟩
  have e : UInt8.ofNat (⟨c.toNat, c.toNat_lt⟩ : Fin 256).val = c := by simp
  rw [e] at h
  exact h
theorem dig_facts_fin : ∀ i : Fin 256, isD (UInt8.ofNat i.val) = true → (bi (UInt8.ofNat i.val) == 39) = false ∧ blk (bi (UInt8.ofNat i.val)) = false ∧ (bi (UInt8.ofNat i.val) == 45) = false := by decide +kernel
theorem dig_facts (c : UInt8) : isD c = true → (bi c == 39) = false ∧ blk (bi c) = false ∧ (bi c == 45) = false := by
  have h := dig_facts_fin ⟨c.toNat, c.toNat_lt⟩
  have e : UInt8.ofNat (⟨c.toNat, c.toNat_lt⟩ : Fin 256).val = c := by simp
  rw [e] at h
  exact h
theorem one_facts_fin : ∀ i : Fin 256, is1 (bi (UInt8.ofNat i.val)) = true → (bi (UInt8.ofNat i.val) == 39) = false ∧ dig (bi (UInt8.ofNat i.val)) = false ∧ blk (bi (UInt8.ofNat i.val)) = false ∧ ltr (bi (UInt8.ofNat i.val)) = false ∧ (bi (UInt8.ofNat i.val) == 120) = false ∧ (bi (UInt8.ofNat i.val) == 88) = false ∧ is2 [(UInt8.ofNat i.val), 32] = false := by decide +kernel
theorem one_facts (c : UInt8) : is1 (bi c) = true → (bi c == 39) = false ∧ dig (bi c) = false ∧ blk (bi c) = false ∧ ltr (bi c) = false ∧ (bi c == 120) = false ∧ (bi c == 88) = false ∧ is2 [c, 32] = false := by
  have h := one_facts_fin ⟨c.toNat, c.toNat_lt⟩
  have e : UInt8.ofNat (⟨c.toNat, c.toNat_lt⟩ : Fin 256).val = c := by simp
  rw [e] at h
  exact h
theorem lower_id : ∀ (l : List UInt8), (∀ c ∈ l, lowerB c = c) → toLowerA l = l
  | [], _ => rfl
  | c :: r, h => by
    show lowerB c :: toLowerA r = c :: r
    rw [h c (by simp), lower_id r (fun x hx => h x (List.mem_cons_of_mem _ hx))]
theorem valD_app : ∀ (l r : List UInt8) (n : Nat), valD n (l ++ r) = valD (valD n l) r
  | [], r, n => rfl
  | c :: l, r, n => valD_app l r _
theorem valD_dec : ∀ (k n : Nat), n ≤ k → valD 0 (decDigits n) = n ∧ (∀ c ∈ decDigits n, isD c = true) ∧ decDigits n ≠ [] := by
  intro k
  induction k with
  | zero =>
    intro n hn
    obtain rfl : n = 0 := by omega
    rw [decDigits_one (by omega)]
    exact ⟨by decide, by decide, by simp⟩
  | succ k ih =>
    intro n hn
    by_cases h : n < 10
    · rw [decDigits_one h]
      have hx : n = 0 ∨ n = 1 ∨ n = 2 ∨ n = 3 ∨ n = 4 ∨ n = 5 ∨ n = 6 ∨ n = 7 ∨ n = 8 ∨ n = 9 := by omega
      rcases hx with rfl | rfl | rfl | rfl | rfl | rfl | rfl | rfl | rfl | rfl <;> exact ⟨by decide, by decide, by simp⟩
    · obtain ⟨h1, h2, h3⟩ := ih (n / 10) (by omega)
      have e : decDigits n = decDigits (n / 10) ++ [UInt8.ofNat (48 + n % 10)] := by rw [decDigits, dif_neg h]
      rw [e]
      have hd : (UInt8.ofNat (48 + n % 10)).toNat = 48 + n % 10 := by rw [UInt8.toNat_ofNat']; omega
      refine ⟨?_, fun c hc => ?_, by simp⟩
      · rw [valD_app, h1]
        show 10 * (n / 10) + ((UInt8.ofNat (48 + n % 10)).toNat - 48) = n
        rw [hd]
        omega
      · rcases List.mem_append.1 hc with hc | hc
        · exact h2 c hc
        · obtain rfl : c = UInt8.ofNat (48 + n % 10) := by simpa using hc
          unfold isD dig bi
          rw [hd]
          simp
          omega
theorem quo_rep (s : List UInt8) : ∀ (x acc : List UInt8) (i : Nat), quo (rep x ++ 39 :: 32 :: s) acc i = some (acc ++ x, i + (rep x).length + 1)
  | [], acc, i => by
    show quo (39 :: 32 :: s) acc i = _
    rw [quo, if_pos rfl, if_neg (by decide)]
    simp [rep]
  | c :: r, acc, i => by
    by_cases hc : c = 39
    · subst hc
      have e : rep (39 :: r) = 39 :: 39 :: rep r := by simp [rep]
      rw [e]
      show quo (39 :: 39 :: (rep r ++ 39 :: 32 :: s)) acc i = _
      rw [quo, if_pos rfl, if_pos rfl, quo_rep s r]
      simp
      omega
    · have e : rep (c :: r) = c :: rep r := by simp [rep, hc]
      rw [e]
      show quo (c :: (rep r ++ 39 :: 32 :: s)) acc i = _
      have hne : ∃ d q, rep r ++ 39 :: 32 :: s = d :: q := by
        cases rep r with
        | nil => exact ⟨_, _, rfl⟩
        | cons d q => exact ⟨_, _, rfl⟩
      obtain ⟨d, q, hdq⟩ := hne
      have := quo_rep s r (acc ++ [c]) (i + 1)
      rw [hdq] at this ⊢
      rw [quo, if_neg hc, this]
      simp
      omega
theorem hexd_hx : ∀ n : Fin 16, hx (bi (hexd n.val)) = (n.val : Int) ∧ hexd n.val ≠ 39 := by decide +kernel
theorem hex_back_fin : ∀ i : Fin 256, UInt8.ofNat (16 * (((UInt8.ofNat i.val).toNat / 16 : Nat) : Int) + (((UInt8.ofNat i.val).toNat % 16 : Nat) : Int)).toNat = (UInt8.ofNat i.val) := by decide +kernel
theorem hex_back (c : UInt8) : UInt8.ofNat (16 * ((c.toNat / 16 : Nat) : Int) + ((c.toNat % 16 : Nat) : Int)).toNat = c := by
  have h := hex_back_fin ⟨c.toNat, c.toNat_lt⟩
  have e : UInt8.ofNat (⟨c.toNat, c.toNat_lt⟩ : Fin 256).val = c := by simp
  rw [e] at h
  exact h
theorem blo_hex (s : List UInt8) : ∀ (x acc : List UInt8) (i : Nat), blo (hexL x ++ 39 :: s) acc i = some (acc ++ x, i + (hexL x).length + 1)
  | [], acc, i => by
    show blo (39 :: s) acc i = _
    cases s <;> (rw [blo, if_pos rfl]; simp [hexL])
  | c :: r, acc, i => by
    have hc := c.toNat_lt
    have h1 := hexd_hx ⟨c.toNat / 16, by omega⟩
    have h2 := hexd_hx ⟨c.toNat % 16, by omega⟩
    show blo (hexd (c.toNat / 16) :: hexd (c.toNat % 16) :: (hexL r ++ 39 :: s)) acc i = _
    simp only [] at h1 h2
    rw [blo, if_neg h1.2, h1.1, h2.1, if_neg (by omega), blo_hex s r, hex_back c]
    simp [hexL]
    omega

/-- A word that is written, with a blank behind it, is read. -/
theorem first1_back (s : List UInt8) {t : Tk} (h : GoodT t) : first1 (prT t ++ 32 :: s) = some (t, (prT t).length) ∧ (∃ c r, prT t = c :: r ∧ blk (bi c) = false) ∧ isR (prT t ++ 32 :: s) = false := by
  obtain ⟨tk, ts, tn⟩ := t
  rcases h with ⟨rfl, rfl, ⟨c, r, rfl, hl⟩, ha⟩ | ⟨rfl, rfl, h0, h1⟩ | ⟨rfl, rfl⟩ | ⟨rfl, rfl⟩ | ⟨rfl, rfl, hs⟩
  · try simp only [] at *
    have e : prT ⟨1, c :: r, 0⟩ = c :: r := rfl
    obtain ⟨f1, f2, f3, f4⟩ := ltr_facts c hl
    rw [e]
    refine ⟨?_, ⟨c, r, rfl, f3⟩, ?_⟩
    · have hcnt := cntW_stop isW 32 isW_32 s (c :: r) (fun x hx => (ha x hx).1)
      have hX : isX (c :: r ++ 32 :: s) = false := by
        cases r with
        | nil => simp [isX, bi]
        | cons d r =>
          have := isW_39 d (ha d (by simp)).1
          simp only [List.cons_append, isX, this, Bool.and_false]
      rw [show c :: r ++ 32 :: s = c :: (r ++ 32 :: s) from rfl, first1_cons, f1, f2]
      rw [show c :: (r ++ 32 :: s) = c :: r ++ 32 :: s from rfl, hX, hl, hcnt]
      simp only [Bool.false_eq_true, if_false, if_true]
      rw [take_app _ _ _ (Nat.le_refl _), List.take_length, lower_id _ (fun x hx => (ha x hx).2)]
    · cases r with
      | nil => simp [isR, f4]
      | cons d r => simp only [List.cons_append, isR, f4, Bool.false_and]
  · try simp only [] at *
    obtain ⟨n, rfl⟩ : ∃ n : Nat, tn = n := ⟨tn.toNat, by omega⟩
    obtain ⟨d1, d2, d3⟩ := valD_dec n n (Nat.le_refl _)
    have e : prT ⟨2, [], (n : Int)⟩ = decDigits n := by
      show itoa (n : Int) = _
      unfold itoa
      rw [if_neg (by omega)]
      rfl
    rw [e]
    cases hd : decDigits n with
    | nil => exact absurd hd d3
    | cons c r =>
      rw [hd] at d1 d2
      obtain ⟨f1, f2, f3⟩ := dig_facts c (d2 c (by simp))
      refine ⟨?_, ⟨c, r, rfl, f2⟩, ?_⟩
      · have hcnt := cntW_stop isD 32 isD_32 s (c :: r) d2
        rw [show c :: r ++ 32 :: s = c :: (r ++ 32 :: s) from rfl, first1_cons, f1, show dig (bi c) = true from d2 c (by simp)]
        rw [show c :: (r ++ 32 :: s) = c :: r ++ 32 :: s from rfl, hcnt]
        simp only [Bool.false_eq_true, if_false, if_true]
        rw [take_app _ _ _ (Nat.le_refl _), List.take_length]
        unfold numD
        rw [d1, if_pos (by omega)]
        rfl
      · cases r with
        | nil => simp [isR, f3]
        | cons d r => simp only [List.cons_append, isR, f3, Bool.false_and]
  · try simp only [] at *
    have e : prT ⟨3, ts, 0⟩ = 39 :: (rep ts ++ [39]) := rfl
    rw [e]
    refine ⟨?_, ⟨39, rep ts ++ [39], rfl, by decide⟩, ?_⟩
    · have : 39 :: (rep ts ++ [39]) ++ 32 :: s = 39 :: (rep ts ++ 39 :: 32 :: s) := by simp
      rw [this, first1_cons, if_pos (by decide), quo_rep s ts [] 1]
      simp
      omega
    · cases rep ts <;> rfl
  · try simp only [] at *
    have e : prT ⟨4, ts, 0⟩ = 88 :: 39 :: (hexL ts ++ [39]) := rfl
    rw [e]
    refine ⟨?_, ⟨88, 39 :: (hexL ts ++ [39]), rfl, by decide⟩, by rfl⟩
    have : 88 :: 39 :: (hexL ts ++ [39]) ++ 32 :: s = 88 :: 39 :: (hexL ts ++ 39 :: 32 :: s) := by simp
    rw [this, first1_cons, if_neg (by decide), if_neg (by decide), if_pos (by rfl)]
    show (blo (hexL ts ++ 39 :: 32 :: s) [] 2).map _ = _
    rw [blo_hex (32 :: s) ts [] 2]
    simp
    omega
  · try simp only [] at *
    have e : prT ⟨5, ts, 0⟩ = ts := rfl
    rw [e]
    rcases hs with ⟨c, rfl, h1⟩ | h2
    · obtain ⟨f1, f2, f3, f4, f5, f6, f7⟩ := one_facts c h1
      refine ⟨?_, ⟨c, [], rfl, f3⟩, ?_⟩
      · have hX : isX (c :: 32 :: s) = false := by simp [isX, bi]
        show first1 (c :: 32 :: s) = _
        have hs1 : sym (c :: 32 :: s) = 1 := by
          show (if is2 [c, 32] then 2 else if is1 (bi c) then 1 else 0) = 1
          rw [f7, h1]
          rfl
        rw [first1_cons, f1, f2, hX, f4, hs1]
        rfl
      · simp [isR, bi]
    · obtain ⟨x, hx, he⟩ := List.any_eq_true.1 h2
      obtain rfl : ts = x := by simpa using he
      simp only [twos2, List.mem_cons, List.not_mem_nil, or_false] at hx
      rcases hx with rfl | rfl | rfl | rfl
      all_goals exact ⟨rfl, ⟨_, _, rfl, by decide⟩, rfl⟩

/-- Words, written one behind the other. -/
def wrT : List (Tk × Nat) → List UInt8
  | [] => []
  | x :: r => prT x.1 ++ 32 :: wrT r
theorem toks_back : ∀ (xs : List (Tk × Nat)), (∀ x ∈ xs, GoodT x.1) → ∀ (F i : Nat), (wrT xs).length < F → ∃ ys, toks F (wrT xs) i = .ok ys ∧ ys.map (·.1) = xs.map (·.1)
  | [], _, F, i, hF => by
    cases F with
    | zero => omega
    | succ G => exact ⟨[], rfl, rfl⟩
  | x :: r, h, 0, i, hF => by omega
  | x :: r, h, 1, i, hF => by simp [wrT] at hF
  | x :: r, h, G + 2, i, hF => by
    obtain ⟨h1, ⟨c, q, hc, hb⟩, hR⟩ := first1_back (wrT r) (h x (by simp))
    have hlen : (wrT (x :: r)).length = (prT x.1).length + (wrT r).length + 1 := by simp [wrT]; omega
    have hp : 0 < (prT x.1).length := by rw [hc]; simp
    rw [hlen] at hF
    obtain ⟨ys, hy1, hy2⟩ := toks_back r (fun y hy => h y (List.mem_cons_of_mem _ hy)) G (i + (prT x.1).length + 1) (by omega)
    refine ⟨(x.1, i) :: ys, ?_, by simp [hy2]⟩
    show toks (G + 1 + 1) (prT x.1 ++ 32 :: wrT r) i = _
    have e : prT x.1 ++ 32 :: wrT r = c :: (q ++ 32 :: wrT r) := by rw [hc]; rfl
    rw [e, toks, ← e, if_neg (by simp [hb]), hR, h1]
    simp only [Bool.false_eq_true, if_false]
    rw [drop_app _ _ _ (Nat.le_refl _), List.drop_length, List.nil_append, toks, if_pos (by decide), hy1]
    rfl
theorem toksOf_back {l : List UInt8} {xs : List (Tk × Nat)} (h : toksOf l = .ok xs) : ∃ ys, toksOf (wrT xs) = .ok ys ∧ ys.map (·.1) = xs.map (·.1) :=
  toks_back xs (toks_good _ _ _ _ h) _ _ (by omega)
end Go.Proofs.YtblkhlhhlalbkaaGreatDoor
