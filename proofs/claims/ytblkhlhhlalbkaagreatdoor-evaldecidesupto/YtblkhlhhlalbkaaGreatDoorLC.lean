/- What (*strings.Builder).WriteByte does, with a builder that is fresh or used. Condition: its bytes lie within the reach. What the lexer's quoted answers. Condition: the text lies within the reach. What the lexer's number and word answer; how digits are read by the library. Conditions: the text lies within the reach; the library's variable of errors holds what its text lays. -/
import Derived.Test.YtblkhlhhlalbkaaGreatDoorShelf
import Derived.Test.YtblkhlhhlalbkaaGreatDoorLB
import Derived.Lib.Builder
import Derived.Lib.ParseIntBCases
namespace Go.Proofs.YtblkhlhhlalbkaaGreatDoor
open Go.RowKit Go.Lib Go.Sort
set_option linter.unusedVariables false
set_option maxRecDepth 20000

theorem bldSize : (Tryz.prog.info? 120).map (·.size) = some 2 := by kernel_rfl
theorem bldLies : liesAt Tryz.prog Tryz.prog.depth 120 (2 / Tryz.prog.cellsOf 120) 0 120 1 = true := by kernel_rfl

set_option maxHeartbeats 1000000 in
theorem bldUsed (b : Nat) (w : World) (h0 : w.cell? ⟨b, 0, none⟩ = some (.pointer (some ⟨b, 0, none⟩))) :
    Calls Tryz.prog 170 #[.pointer (some ⟨b, 0, none⟩)] w fun e w' => e = .returned (.tuple #[]) ∧ w' = w := by
  obtain ⟨j, hj, _⟩ := Option.map_eq_some_iff.1 bldSize
  go_enter Tryz.func170, Tryz.ntmps170
  go_wp2
  rw [Lib.run_neq_ptr_same w _ Tryz.underlying118 hj]
  go_wp2
  go_end0
  exact ⟨rfl, rfl⟩

set_option maxHeartbeats 1000000 in
theorem bldFresh (b : Nat) (w : World) (h0 : w.cell? ⟨b, 0, none⟩ = some (.pointer none)) (hsh : w.shape? b = some (120, 2)) (hfz : w.frozen? ⟨b, 0, none⟩ = false) :
    Calls Tryz.prog 170 #[.pointer (some ⟨b, 0, none⟩)] w fun e w' => e = .returned (.tuple #[]) ∧ w' = w.setCell ⟨b, 0, none⟩ (.pointer (some ⟨b, 0, none⟩)) := by
  obtain ⟨j, hj, hjs⟩ := Option.map_eq_some_iff.1 bldSize
  go_enter Tryz.func170, Tryz.ntmps170
  go_wp2
  rw [Lib.run_to_unsafe w ⟨b, 0, none⟩ Tryz.underlying118 Tryz.underlying195 hj (by rw [hjs]; decide) hsh (Nat.zero_lt_succ 1)]
  simp only [Result.andThen]
  rw [Oper.upon_value]
  go_wp2
  rw [run_callFunc_extern Tryz.func192 (by kernel_rfl) (by kernel_rfl) (by kernel_rfl) (e := Extern.AbiNoEscape.same) (by kernel_rfl)]
  rw [Lib.run_noEscape]
  simp only [Result.andThen]
  rw [Oper.upon_value]
  go_wp2
  rw [Lib.run_from_unsafe w ⟨b, 0, none⟩ Tryz.underlying195 Tryz.underlying118 hj hsh bldLies]
  simp only [Result.andThen]
  rw [Oper.upon_value]
  go_wp2
  go_end0
  exact ⟨rfl, rfl⟩
theorem bldCheck (B b : Nat) (bs : List Value) (w : World) (h : Lib.IsBuilder 120 5 B b bs w) :
    Calls Tryz.prog 170 #[.pointer (some ⟨b, 0, none⟩)] w fun e w' => e = .returned (.tuple #[]) ∧ (Lib.BuilderAt 120 5 B b (.pointer (some ⟨b, 0, none⟩)) bs w' ∧ Below B w w') := by
  rcases h with h | h
  · refine (bldFresh b w h.cell0 h.shape h.frozen0).mono ?_
    rintro e w' ⟨rfl, rfl⟩
    exact ⟨rfl, h.used _, (Below.refl B w).setCell (p := ⟨b, 0, none⟩) h.1 _⟩
  · refine (bldUsed b w h.cell0).mono ?_
    rintro e w' ⟨rfl, rfl⟩
    exact ⟨rfl, h, Below.refl B _⟩

/-- A builder at a block, with its bytes. -/
def Bld (B b : Nat) (l : List UInt8) (w : World) : Prop := Lib.IsBuilder 120 5 B b (byteCells l) w

set_option maxHeartbeats 2000000 in
theorem bldByte (B b : Nat) (l : List UInt8) (c : UInt8) (n : Int) (w : World) (hn : n = (c.toNat : Int)) (h : Bld B b l w) (hlen : l.length + 1 ≤ 140737488355328) (hBw : B ≤ w.heap.size) :
    Calls Tryz.prog 124 #[.pointer (some ⟨b, 0, none⟩), .int .u8 n] w fun e w' => e = .returned .nilIface ∧ Bld B b (l ++ [c]) w' ∧ Below B w w' := by
  subst hn
  obtain ⟨i0, hi, hz0, hz1, hz2⟩ := info_parts infoB
  have hll : (byteCells l).length = l.length := by simp [byteCells]
  have C := hid (bldCheck B b (byteCells l) w h)
  have HL : Hid (byteCells (l ++ [c]) = byteCells l ++ [.int .u8 c.toNat]) := by simp [Hid, byteCells]
  unfold Bld
  rw [HL.out]
  clear h
  generalize byteCells l = bs at *
  rw [← hll] at hlen
  clear hll
  go_enter Tryz.func124, Tryz.ntmps124
  go_wp2_with (go_at_call 170; refine C.out.mono ?_)
  rintro e w1 ⟨rfl, h1, hb1⟩
  obtain ⟨hB, v, hbk, hown, hne⟩ := h1
  have c0 : w1.cell? ⟨b, 0, none⟩ = some (.pointer (some ⟨b, 0, none⟩)) := by rw [Lib.cell_of_heap hbk]; rfl
  have c1 : w1.cell? ⟨b, 1, none⟩ = some v := by rw [Lib.cell_of_heap hbk]; rfl
  go_wp2_with (at_builtin; refine wpList_append_own _ rfl _ _ 93 rfl B 5 i0 (.int .u8 0) 1 1 Tryz.underlying93 hi hz0 hz1 hz2 rfl (by decide) _ _ _ rfl (hown.alloc _) ⟨w1.heap.size, 0, none⟩ 1 1 [.int .u8 c.toNat] rfl rfl ?c1 ?c2 ?c3 ?c4 ?c5 ?_)
  case c1 =>
    intro j u hj
    match j, hj with
    | 0, hj => simp at hj; subst hj; simp [Addr.add]
  case c2 => intro u hu; simp at hu; subst hu; rfl
  case c3 => unfold maxLen; omega
  case c4 => omega
  case c5 => have := hb1.size; simp; omega
  intro v' w2 hown' hgrow _
  have hlt : b < w1.heap.size := by
    rcases Nat.lt_or_ge b w1.heap.size with h' | h'
    · exact h'
    · simp [Array.getElem?_eq_none h'] at hbk
  have hb2 : w2.heap[b]? = some (.cells #[.pointer (some ⟨b, 0, none⟩), v] 120 (0, 0)) := by
    rw [hgrow.block b (by simp; omega) (fun e => hne e.symm), Lib.alloc_old w1 _ b hlt]
    exact hbk
  have d0 : w2.cell? ⟨b, 0, none⟩ = some (.pointer (some ⟨b, 0, none⟩)) := by rw [Lib.cell_of_heap hb2]; rfl
  have d1 : w2.cell? ⟨b, 1, none⟩ = some v := by rw [Lib.cell_of_heap hb2]; rfl
  have f1 : w2.frozen? ⟨b, 1, none⟩ = false := Lib.frozen_of_heap hb2 1
  obtain ⟨g, cap, rfl⟩ : ∃ g cap, v' = .slice (some ⟨g, 0, none⟩) (bs.length + 1) cap := by
    rcases hown'.2 with ⟨_, h0⟩ | ⟨g, cap, cur, hv, _⟩
    · omega
    · exact ⟨g, cap, hv⟩
  go_wp2
  go_ret
  refine ⟨rfl, ?_, ?_⟩
  · exact Or.inr (Lib.BuilderAt.put (T := 120) (e := 5) hB hb2 (bs' := bs ++ [.int .u8 c.toNat]) (by simpa using hown') (by decide))
  · exact ((hb1.alloc (by have := hb1.size; omega) _).grown hgrow (by have := hb1.size; simp; omega) (fun k hk => (hown.lt k hk).1)).setCell (p := ⟨b, 1, none⟩) hB _
theorem bldNew (w : World) : Bld w.heap.size w.heap.size [] (w.alloc (.cells #[.pointer none, .slice none 0 0] 120)) := fresh_isBuilder _ _ w
theorem bldString (B b : Nat) (l : List UInt8) (w : World) (h : Bld B b l w) (hBw : B ≤ w.heap.size) :
    Calls Tryz.prog 76 #[.pointer (some ⟨b, 0, none⟩)] w fun e w' => e = .returned (.string ⟨l.toArray⟩) ∧ Below B w w' := Tryz.Builder_String_any B b l w h hBw
end Go.Proofs.YtblkhlhhlalbkaaGreatDoor
namespace Go.Proofs.YtblkhlhhlalbkaaGreatDoor
open Go.RowKit Go.Lib Go.Sort
set_option linter.unusedVariables false
set_option maxRecDepth 20000

theorem quo_ne {c : UInt8} (h : c ≠ 39) (r acc : List UInt8) (i : Nat) : quo (c :: r) acc i = quo r (acc ++ [c]) (i + 1) := by
  cases r with
  | nil => simp [quo, h]
  | cons d r => rw [quo, if_neg h]
theorem quo_q1 (acc : List UInt8) (i : Nat) : quo [39] acc i = some (acc, i + 1) := by rw [quo, if_pos rfl]
theorem quo_q2 (r acc : List UInt8) (i : Nat) : quo (39 :: 39 :: r) acc i = quo r (acc ++ [39]) (i + 2) := by rw [quo, if_pos rfl, if_pos rfl]
theorem quo_q3 {d : UInt8} (h : d ≠ 39) (r acc : List UInt8) (i : Nat) : quo (39 :: d :: r) acc i = some (acc, i + 1) := by rw [quo, if_pos rfl, if_neg h]
theorem byte_eq {c : UInt8} {n : Nat} (hn : n < 256) : (((c.toNat : Nat) : Int) == (n : Int)) = decide (c = UInt8.ofNat n) := by
  rw [Bool.eq_iff_iff, beq_iff_eq, decide_eq_true_iff]
  constructor
  · intro h
    apply UInt8.toNat_inj.1
    rw [UInt8.toNat_ofNat', Nat.mod_eq_of_lt hn]
    omega
  · rintro rfl
    rw [UInt8.toNat_ofNat', Nat.mod_eq_of_lt hn]
theorem byte_ne39 {c : UInt8} (h : (((c.toNat : Nat) : Int) == 39) = false) : c ≠ 39 := by
  rintro rfl
  cases h
theorem byte_is39 {c : UInt8} (h : (((c.toNat : Nat) : Int) == 39) = true) : c = 39 := by
  rw [beq_iff_eq] at h
  apply UInt8.toNat_inj.1
  show c.toNat = 39
  omega

/-- The result's block, as it is made. -/
def Res (w : World) (b : Nat) : Prop := w.heap[b]? = some (.cells #[.int .i64 0, .string ⟨#[]⟩, .int .i64 0, .int .i64 0] 106 (0, 0))
theorem Res.cells {w : World} {b : Nat} (h : Res w b) : w.cell? ⟨b, 0, none⟩ = some (.int .i64 0) ∧ w.cell? ⟨b, 1, none⟩ = some (.string ⟨#[]⟩) ∧ w.cell? ⟨b, 2, none⟩ = some (.int .i64 0) ∧ w.cell? ⟨b, 3, none⟩ = some (.int .i64 0) := by
  refine ⟨?_, ?_, ?_, ?_⟩ <;> (rw [Lib.cell_of_heap h]; rfl)
theorem Res.frozen {w : World} {b : Nat} (h : Res w b) (j : Nat) : w.frozen? ⟨b, j, none⟩ = false := Lib.frozen_of_heap h j
theorem Res.below {w w' : World} {b B : Nat} (h : Res w b) (hb : Below B w w') (hB : b < B) : Res w' b := by
  unfold Res
  rw [hb.block b hB]
  exact h
theorem Res.lt {w : World} {b : Nat} (h : Res w b) : b < w.heap.size := by
  rcases Nat.lt_or_ge b w.heap.size with h' | h'
  · exact h'
  · simp [Res, Array.getElem?_eq_none h'] at h
theorem below_put4 {w w1 : World} {b : Nat} {x0 x1 x2 x3 : Value} (h : Below b w w1) : Below b w ((((w1.setCell ⟨b, 0, none⟩ x0).setCell ⟨b, 1, none⟩ x1).setCell ⟨b, 2, none⟩ x2).setCell ⟨b, 3, none⟩ x3) :=
  (((h.setCell (p := ⟨b, 0, none⟩) (Nat.le_refl _) _).setCell (p := ⟨b, 1, none⟩) (Nat.le_refl _) _).setCell (p := ⟨b, 2, none⟩) (Nat.le_refl _) _).setCell (p := ⟨b, 3, none⟩) (Nat.le_refl _) _

/-- What quoted and blob answer. -/
def mapK (k : Int) (R : Option (List UInt8 × Nat)) : Option (Tk × Nat) := R.map fun x => (⟨k, x.1, 0⟩, x.2)

set_option maxHeartbeats 4000000 in
theorem xquoted_any (s : ByteArray) (w : World) (h : 0 < s.size) (hs : s.size ≤ 140737488351232) :
    Calls Tryz.prog 83 #[.string s] w fun e w' => e = .returned (fstV (mapK 3 (quo (s.data.toList.drop 1) [] 1))) ∧ Below w.heap.size w w' := by
  obtain ⟨R, HR⟩ : ∃ R, Hid (quo (s.data.toList.drop 1) [] 1 = R) := ⟨_, rfl⟩
  rw [HR.out]
  go_enter Tryz.func83, Tryz.ntmps83
  go_wp2_with fail
  have HB0 := hid (bldNew (w.alloc (.cells #[.int .i64 0, .string ⟨#[]⟩, .int .i64 0, .int .i64 0] 106)))
  have e1 : (w.alloc (.cells #[.int .i64 0, .string ⟨#[]⟩, .int .i64 0, .int .i64 0] 106)).heap.size = w.heap.size + 1 := by simp
  rw [e1] at HB0
  go_loopw [5] (fun i wr => ∃ (k : Nat) (acc : List UInt8), i = .int .i64 k ∧ 1 ≤ k ∧ k ≤ s.size ∧ acc.length ≤ k ∧ Hid (quo (s.data.toList.drop k) acc k = R) ∧ Hid (Bld (w.heap.size + 1) (w.heap.size + 1) acc wr) ∧ Hid (Below w.heap.size w wr) ∧ Hid (Res wr w.heap.size) ∧ w.heap.size + 1 < wr.heap.size) (fun i _ => s.size - (RowKit.intOf i).toNat)
  case atStart => exact ⟨1, [], rfl, by omega, by omega, by simp, HR, HB0, by show Below _ _ _; go_grown, (Lib.alloc_old _ _ _ (by simp)).trans (heap_alloc_new w _), by simp⟩
  case round =>
    obtain ⟨k, acc, rfl, hk1, hk, hacc, hQ, hB, bel, hres, hsz⟩ := hrel
    by_cases hlt : k < s.size
    · have HD := hid (drop_at s hlt)
      have hkz : (k : Int) < s.size := by omega
      cases hc : (((s[k].toNat : Nat) : Int) == 39) with
      | true =>
        have h39 := byte_is39 hc
        by_cases hlt2 : k + 1 < s.size
        · have HD2 := hid (drop_at s hlt2)
          have hkz2 : ((k : Int) + 1) < s.size := by omega
          have hkz3 : (((k : Int) + 1) == (s.size : Int)) = false := beq_eq_false_iff_ne.2 (by omega)
          cases hd : (((s[k + 1].toNat : Nat) : Int) == 39) with
          | true =>
            have h39' := byte_is39 hd
            have HN : Hid (quo (s.data.toList.drop (k + 2)) (acc ++ [39]) (k + 2) = R) := by
              show _ = _
              rw [← hQ.out, HD.out, HD2.out, h39, h39', quo_q2]
            clear hQ HD HD2
            have C := hid (bldByte (w.heap.size + 1) (w.heap.size + 1) acc 39 (s[k + 1].toNat : Int) wr (by rw [h39']) hB.out (by omega) (by omega))
            clear h39 h39'
            go_wp2_with (go_at_call 124; with_reducible refine C.out.mono ?_; rintro e w2 ⟨rfl, hb2, bel2⟩; have HB2 := hid hb2; have BB := hid (bel.out.trans (bel2.mono (Nat.le_succ _))); have HS := hid (hres.out.below bel2 (Nat.lt_succ_self _)); have hz2 : w.heap.size + 1 < w2.heap.size := Nat.lt_of_lt_of_le hsz bel2.size; clear hb2 bel2)
            go_roundw
            case rel => exact ⟨k + 2, acc ++ [39], by go_num, by omega, by omega, by simp; omega, HN, HB2, BB, HS, hz2⟩
            case measure => simp [RowKit.intOf]; omega
          | false =>
            have h39' := byte_ne39 hd
            have HN : Hid (R = some (acc, k + 1)) := by
              show _ = _
              rw [← hQ.out, HD.out, HD2.out, h39, quo_q3 h39']
            clear hQ HD HD2
            have C := hid (bldString (w.heap.size + 1) (w.heap.size + 1) acc wr hB.out (by omega))
            clear h39 h39'
            go_wp2_with (go_at_call 76; with_reducible refine C.out.mono ?_; rintro e w2 ⟨rfl, bel2⟩; obtain ⟨z0, z1, z2, z3⟩ := (hres.out.below bel2 (Nat.lt_succ_self _)).cells; have zf := (hres.out.below bel2 (Nat.lt_succ_self _)).frozen; have BB := hid (bel.out.trans (bel2.mono (Nat.le_succ _))); clear bel2)
            refine bodyPost_ret (by simp [results, Tryz.results83, go_sem, z0, z1, z2, z3]; try rfl) rfl ?_
            exact ⟨by rw [HN.out]; rfl, below_put4 BB.out⟩
        · have hkz3 : (((k : Int) + 1) == (s.size : Int)) = true := beq_iff_eq.2 (by omega)
          have HN : Hid (R = some (acc, k + 1)) := by
            show _ = _
            rw [← hQ.out, HD.out, drop_end s (by omega), h39, quo_q1]
          clear hQ HD
          have C := hid (bldString (w.heap.size + 1) (w.heap.size + 1) acc wr hB.out (by omega))
          clear h39
          go_wp2_with (go_at_call 76; with_reducible refine C.out.mono ?_; rintro e w2 ⟨rfl, bel2⟩; obtain ⟨z0, z1, z2, z3⟩ := (hres.out.below bel2 (Nat.lt_succ_self _)).cells; have zf := (hres.out.below bel2 (Nat.lt_succ_self _)).frozen; have BB := hid (bel.out.trans (bel2.mono (Nat.le_succ _))); clear bel2)
          refine bodyPost_ret (by simp [results, Tryz.results83, go_sem, z0, z1, z2, z3]; try rfl) rfl ?_
          exact ⟨by rw [HN.out]; rfl, below_put4 BB.out⟩
      | false =>
        have h39 := byte_ne39 hc
        have HN : Hid (quo (s.data.toList.drop (k + 1)) (acc ++ [s[k]]) (k + 1) = R) := by
          show _ = _
          rw [← hQ.out, HD.out, quo_ne h39]
        clear hQ HD h39
        have C := hid (bldByte (w.heap.size + 1) (w.heap.size + 1) acc s[k] (s[k].toNat : Int) wr rfl hB.out (by omega) (by omega))
        go_wp2_with (go_at_call 124; with_reducible refine C.out.mono ?_; rintro e w2 ⟨rfl, hb2, bel2⟩; have HB2 := hid hb2; have BB := hid (bel.out.trans (bel2.mono (Nat.le_succ _))); have HS := hid (hres.out.below bel2 (Nat.lt_succ_self _)); have hz2 : w.heap.size + 1 < w2.heap.size := Nat.lt_of_lt_of_le hsz bel2.size; clear hb2 bel2)
        go_roundw
        case rel => exact ⟨k + 1, acc ++ [s[k]], by go_num, by omega, by omega, by simp; omega, HN, HB2, BB, HS, hz2⟩
        case measure => simp [RowKit.intOf]; omega
    · have HN : Hid (R = none) := by
        show _ = _
        rw [← hQ.out, drop_end s (by omega)]
        rfl
      have hkz : ¬ (k : Int) < s.size := by omega
      obtain ⟨z0, z1, z2, z3⟩ := hres.out.cells
      have zf := hres.out.frozen
      clear hQ
      go_wp2_with fail
      refine bodyPost_ret (by simp [results, Tryz.results83, go_sem, z0, z1, z2, z3]; try rfl) rfl ?_
      exact ⟨by rw [HN.out]; rfl, below_put4 bel.out⟩
end Go.Proofs.YtblkhlhhlalbkaaGreatDoor
namespace Go.Proofs.YtblkhlhhlalbkaaGreatDoor
open Go.RowKit Go.Lib Go.Sort
set_option linter.unusedVariables false
set_option maxRecDepth 20000

theorem valD_ge : ∀ (l : List UInt8) (n : Nat), n ≤ valD n l
  | [], n => Nat.le_refl _
  | c :: r, n => by
    have := valD_ge r (10 * n + (c.toNat - 48))
    show n ≤ valD (10 * n + (c.toNat - 48)) r
    omega
theorem isD_iff (c : UInt8) : isD c = true ↔ 48 ≤ c.toNat ∧ c.toNat ≤ 57 := by
  unfold isD dig bi
  simp
  omega
theorem parseM (l : List UInt8) : ∀ (acc : Nat), (∀ c ∈ l, isD c = true) → acc ≤ 18446744073709551615 →
    (valD acc l ≤ 18446744073709551615 → parseUintM 18446744073709551615 acc l = .ok (valD acc l)) ∧ (18446744073709551615 < valD acc l → parseUintM 18446744073709551615 acc l = .range) := by
  induction l with
  | nil => intro acc _ h; exact ⟨fun _ => rfl, fun h' => absurd h' (by show ¬ _ < acc; omega)⟩
  | cons c r ih =>
    intro acc hd h
    have hc := (isD_iff c).1 (hd c List.mem_cons_self)
    have hr := fun x hx => hd x (List.mem_cons_of_mem c hx)
    have e : valD acc (c :: r) = valD (10 * acc + (c.toNat - 48)) r := rfl
    have hg := valD_ge r (10 * acc + (c.toNat - 48))
    rw [e]
    unfold parseUintM
    rw [if_pos hc]
    by_cases h1 : 1844674407370955162 ≤ acc
    · rw [if_pos h1]
      exact ⟨fun h' => by omega, fun _ => rfl⟩
    · rw [if_neg h1]
      by_cases h2 : 18446744073709551615 < acc * 10 + (c.toNat - 48)
      · rw [if_pos h2]
        exact ⟨fun h' => by omega, fun _ => rfl⟩
      · rw [if_neg h2, Nat.mul_comm acc 10]
        exact ih _ hr (by omega)
theorem parse_num (l : List UInt8) (h0 : l ≠ []) (hd : ∀ c ∈ l, isD c = true) : parseIntB 64 l = match numD l with
    | some v => .ok v
    | none => .range := by
  cases l with
  | nil => exact absurd rfl h0
  | cons c r =>
    have hc := (isD_iff c).1 (hd c List.mem_cons_self)
    rw [parseIntB_plain 64 c r (by omega) (by omega)]
    have hM := parseM (c :: r) 0 hd (by omega)
    have hP : parseUintB 64 (c :: r) = parseUintM 18446744073709551615 0 (c :: r) := by unfold parseUintB; rw [if_neg (by simp)]
    rw [hP]
    unfold numD
    by_cases h1 : valD 0 (c :: r) ≤ 9223372036854775807
    · rw [hM.1 (by omega), if_pos h1]
      simp only [signlessC]
      rw [if_neg (by omega)]
    · rw [if_neg h1]
      by_cases h2 : valD 0 (c :: r) ≤ 18446744073709551615
      · rw [hM.1 h2]
        simp only [signlessC]
        rw [if_pos (by omega)]
      · rw [hM.2 (by omega)]
        rfl

theorem cntW_all (p : UInt8 → Bool) : ∀ (l : List UInt8), ∀ c ∈ l.take (cntW p l), p c = true
  | [], c, h => by simp at h
  | d :: r, c, h => by
    by_cases hd : p d = true
    · rw [cntW_hit hd, List.take_succ_cons] at h
      rcases List.mem_cons.1 h with rfl | h
      · exact hd
      · exact cntW_all p r c h
    · rw [cntW_miss (by simpa using hd)] at h
      simp at h
theorem ext0 (s : ByteArray) (m : Nat) : (s.extract 0 m).data.toList = s.data.toList.take m := by
  rw [ext_data, List.drop_zero, Nat.sub_zero]

/-- What the library's variables hold. -/
structure Rdy (w : World) : Prop where
  rng : ∃ te pe, w.cell? ⟨5, 0, none⟩ = some (.iface te pe)
theorem Rdy.below {w w' : World} (h : Rdy w) (hb : Below w.heap.size w w') : Rdy w' := by
  obtain ⟨te, pe, hc⟩ := h.rng
  exact ⟨te, pe, lxbelow_cell hb hc⟩

set_option maxHeartbeats 4000000 in
theorem xnumber_any (s : ByteArray) (w : World) (h : 0 < s.size) (hd : isD s[0] = true) (hs : s.size ≤ 140737488351232) (hw : Rdy w) :
    Calls Tryz.prog 85 #[.string s] w fun e w' => e = .returned (fstV ((numD (s.data.toList.take (cntW isD s.data.toList))).map fun v => (⟨2, [], v⟩, cntW isD s.data.toList))) ∧ Below w.heap.size w w' := by
  have C := hid (fun w => sizeOf_digit s w hs)
  have hm := cntW_le isD s.data.toList
  have hm0 : 0 < cntW isD s.data.toList := by rw [data_cons h, cntW_hit hd]; omega
  have hall := cntW_all isD s.data.toList
  rw [show s.data.toList.length = s.size by simp] at hm
  generalize cntW isD s.data.toList = m at *
  have hP := parse_num (s.data.toList.take m) (fun e => by
    have : (s.data.toList.take m).length = 0 := by rw [e]; rfl
    rw [List.length_take, show s.data.toList.length = s.size by simp] at this
    omega) hall
  rw [← ext0] at hP
  have HX := hid (ext0 s m)
  have hsz : (s.extract 0 m).size ≤ 140737488351232 := by
    have : (s.extract 0 m).data.toList.length = (s.extract 0 m).size := by simp
    rw [← this, HX.out, List.length_take]
    simp
    omega
  rw [← HX.out]
  have B0 : Below w.heap.size w (w.alloc (.cells #[.int .i64 0, .string ⟨#[]⟩, .int .i64 0, .int .i64 0] 106)) := (Below.refl _ _).alloc (Nat.le_refl _) _
  have hres : Res (w.alloc (.cells #[.int .i64 0, .string ⟨#[]⟩, .int .i64 0, .int .i64 0] 106)) w.heap.size := heap_alloc_new w _
  have e1 : (w.alloc (.cells #[.int .i64 0, .string ⟨#[]⟩, .int .i64 0, .int .i64 0] 106)).heap.size = w.heap.size + 1 := by simp
  cases hn : numD (s.extract 0 m).data.toList with
  | some v =>
    rw [hn] at hP
    have P := hid (fun w => Tryz.strconv_ParseInt_10_at64_ok (s.extract 0 m) (by omega) v hP w)
    have HB0 := hid B0
    have HRES := hid hres
    clear hP hn hall hw B0 hres HX hsz
    go_enter Tryz.func85, Tryz.ntmps85
    go_wp2_with (first
      | (go_at_call 125; with_reducible refine (C.out _).mono ?_; rintro e w2 ⟨rfl, hw⟩; subst hw)
      | (go_at_call 126; with_reducible refine (P.out _).mono ?_; rintro e w2 ⟨rfl, hw2⟩
         have b2 : Below (w.heap.size + 1) (w.alloc (.cells #[.int .i64 0, .string ⟨#[]⟩, .int .i64 0, .int .i64 0] 106)) w2 := (by
           rcases hw2 with rfl | ⟨t, rfl⟩
           · exact Below.refl _ _
           · have := Lib.bytesWorld_below (w.alloc (.cells #[.int .i64 0, .string ⟨#[]⟩, .int .i64 0, .int .i64 0] 106)) 5 t
             rw [e1] at this
             exact this)
         obtain ⟨z0, z1, z2, z3⟩ := (HRES.out.below b2 (Nat.lt_succ_self _)).cells; have zf := (HRES.out.below b2 (Nat.lt_succ_self _)).frozen; have BB := hid (HB0.out.trans (b2.mono (Nat.le_succ _))); clear hw2 b2))
    refine bodyPost_ret (by simp [results, Tryz.results85, go_sem, z0, z1, z2, z3]; try rfl) rfl ?_
    exact ⟨rfl, below_put4 BB.out⟩
  | none =>
    rw [hn] at hP
    obtain ⟨te, pe, hc⟩ := (hw.below B0).rng
    have P := hid (Tryz.strconv_ParseInt_10_at64_range (s.extract 0 m) (by omega) hP (.iface te pe) _ hc (Or.inr ⟨_, _, rfl⟩))
    have HB0 := hid B0
    have HRES := hid hres
    clear hP hn hall hw B0 hres HX hsz hc
    rw [e1] at P
    generalize Lib.intSat 64 (s.extract 0 m).data.toList = sat at *
    go_enter Tryz.func85, Tryz.ntmps85
    go_wp2_with (first
      | (go_at_call 125; with_reducible refine (C.out _).mono ?_; rintro e w2 ⟨rfl, hw⟩; subst hw)
      | (go_at_call 126; with_reducible refine P.out.mono ?_; rintro e w2 ⟨nb, rfl, _, _, b2⟩
         obtain ⟨z0, z1, z2, z3⟩ := (HRES.out.below b2 (Nat.lt_succ_self _)).cells; have zf := (HRES.out.below b2 (Nat.lt_succ_self _)).frozen; have BB := hid (HB0.out.trans (b2.mono (Nat.le_succ _))); clear b2))
    refine bodyPost_ret (by simp [results, Tryz.results85, go_sem, z0, z1, z2, z3]; try rfl) rfl ?_
    exact ⟨rfl, below_put4 BB.out⟩

theorem isW_ascii {c : UInt8} (h : isW c = true) : c.toNat < 128 := by
  unfold isW wrd ltr dig bi at h
  simp at h
  omega

set_option maxHeartbeats 4000000 in
theorem xwordT_any (s : ByteArray) (w : World) (hs : s.size ≤ 140737488351232) :
    Calls Tryz.prog 89 #[.string s] w fun e w' => e = .returned (fstV (some (⟨1, toLowerA (s.data.toList.take (cntW isW s.data.toList)), 0⟩, cntW isW s.data.toList))) ∧ Below w.heap.size w w' := by
  have C := hid (fun w => sizeOf_word s w hs)
  have hm := cntW_le isW s.data.toList
  have hall := cntW_all isW s.data.toList
  rw [show s.data.toList.length = s.size by simp] at hm
  generalize cntW isW s.data.toList = m at *
  have HX := hid (ext0 s m)
  have hsz : (s.extract 0 m).size ≤ 140737488351232 := by
    have : (s.extract 0 m).data.toList.length = (s.extract 0 m).size := by simp
    rw [← this, HX.out, List.length_take]
    simp
    omega
  have P := hid (fun w => Tryz.strings_ToLower_ascii (s.extract 0 m) w (by omega) (fun j b hj => isW_ascii (hall b (by rw [← HX.out]; exact List.mem_of_getElem? hj))))
  rw [← HX.out]
  show Calls _ _ _ _ fun e w' => e = .returned (.tuple #[.agg #[.int .i64 1, .string ⟨(toLowerA (s.extract 0 m).data.toList).toArray⟩, .int .i64 0, .int .i64 0], .int .i64 (m : Int)]) ∧ _
  generalize (⟨(toLowerA (s.extract 0 m).data.toList).toArray⟩ : ByteArray) = LW at *
  have B0 := hid (show Below w.heap.size w (w.alloc (.cells #[.int .i64 0, .string ⟨#[]⟩, .int .i64 0, .int .i64 0] 106)) from (Below.refl _ _).alloc (Nat.le_refl _) _)
  have HRES := hid (show Res (w.alloc (.cells #[.int .i64 0, .string ⟨#[]⟩, .int .i64 0, .int .i64 0] 106)) w.heap.size from heap_alloc_new w _)
  have e1 : (w.alloc (.cells #[.int .i64 0, .string ⟨#[]⟩, .int .i64 0, .int .i64 0] 106)).heap.size = w.heap.size + 1 := by simp
  have P1 := hid (P.out (w.alloc (.cells #[.int .i64 0, .string ⟨#[]⟩, .int .i64 0, .int .i64 0] 106)))
  rw [e1] at P1
  clear hall HX hsz P e1
  go_enter Tryz.func89, Tryz.ntmps89
  go_wp2_with (first
    | (go_at_call 125; with_reducible refine (C.out _).mono ?_; rintro e w2 ⟨rfl, hw⟩; subst hw)
    | (go_at_call 129; with_reducible refine P1.out.mono ?_; rintro e w2 ⟨rfl, b2⟩
       obtain ⟨z0, z1, z2, z3⟩ := (HRES.out.below b2 (Nat.lt_succ_self _)).cells; have zf := (HRES.out.below b2 (Nat.lt_succ_self _)).frozen; have BB := hid (B0.out.trans (b2.mono (Nat.le_succ _))); clear b2))
  refine bodyPost_ret (by simp [results, Tryz.results89, go_sem, z0, z1, z2, z3]; try rfl) rfl ?_
  exact ⟨rfl, below_put4 BB.out⟩
end Go.Proofs.YtblkhlhhlalbkaaGreatDoor
