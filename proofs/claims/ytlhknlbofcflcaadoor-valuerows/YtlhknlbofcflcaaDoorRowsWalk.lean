/- The law ValueRows returns true and writes nothing that was there. Conditions: the rows take at most the reach; the library's table lies in memory as its text lays it. -/
import Derived.Test.YtlhknlbofcflcaaDoorValWorks
import Derived.Test.YtlhknlbofcflcaaDoorValRows
import Derived.Test.YtlhknlbofcflcaaDoorRowOrder
namespace Go.Proofs.YtlhknlbofcflcaaDoor
open Go.RowKit Go.Lib Go.Sort
set_option linter.unusedVariables false

theorem infoB : (Tryd.prog.info? 4).map (fun i => (i.zero, i.size, i.bytes)) = some (some (.bool false), 1, 1) := by kernel_rfl

/-- The places turned about. -/
def turnedL (ds : List Bool) (n : Nat) : List Bool := (List.range n).map fun i => !(ds.getD i false)
theorem turnedL_succ (ds : List Bool) (n : Nat) : turnedL ds (n + 1) = turnedL ds n ++ [!(ds.getD n false)] := by simp [turnedL, List.range_succ]
theorem turnedL_length (ds : List Bool) (n : Nat) : (turnedL ds n).length = n := by simp [turnedL]
theorem turnedL_at (ds : List Bool) (n i : Nat) (h : i < n) : (turnedL ds n).getD i false = !(ds.getD i false) := by simp [turnedL, h]

theorem Bits.of_owns {w : World} {base e : Nat} {v : Value} {n : Nat} {ds : List Bool} (h : w.ownsRow base e 1 v n (ds.map .bool)) : n = ds.length ∧ ∃ p cap, v = .slice p ds.length cap ∧ ds.length ≤ maxLen ∧ Bits w p ds := by
  obtain ⟨h1, h2⟩ := h
  rw [List.length_map] at h1
  obtain rfl : n = ds.length := by omega
  refine ⟨rfl, ?_⟩
  rcases h2 with ⟨rfl, h0⟩ | ⟨g, cap, cur, rfl, hg, hh, hle, hm, hs, ht⟩
  · have : ds = [] := List.length_eq_zero_iff.1 h0
    subst this
    exact ⟨none, 0, rfl, Nat.zero_le _, Or.inl rfl⟩
  · refine ⟨_, cap, rfl, by omega, Or.inr ⟨g, 0, rfl, fun i hi => ?_⟩⟩
    have hu : (ds.map Value.bool)[i]? = some (.bool ds[i]) := by simp [hi]
    rw [← ht, List.getElem?_take, if_pos (by omega), Array.getElem?_toList] at hu
    simp [World.cell?, hh, hu]

set_option maxHeartbeats 2000000 in
theorem rowsLaw_any (xs ys : List Val) (ds : List Bool) (pa pb pd : Option Addr) (ca cb cd : Nat) (w : World) (hw : Ready w)
    (zA : xs.length * 32 ≤ 140737488351232) (zB : ys.length * 32 ≤ 140737488351232) (zD : ds.length ≤ 140737488351232) (rA : Row w pa xs) (rB : Row w pb ys) (rD : Bits w pd ds) :
    Calls Tryd.prog 5 #[.slice pa xs.length ca, .slice pb ys.length cb, .slice pd ds.length cd] w fun e w' => e = .returned (.bool true) ∧ Below w.heap.size w w' := by
  obtain ⟨i0, hi, hz0, hz1, hz2⟩ := info_parts infoB
  have hA : xs.length ≤ maxLen := by unfold maxLen; omega
  have hB : ys.length ≤ maxLen := by unfold maxLen; omega
  have hD : ds.length ≤ maxLen := by unfold maxLen; omega
  have bx := cmpRow_bd xs ys ds
  have HW : Hid (Ready w) := hw
  have C1 : Hid (∀ w, Row w pa xs → Row w pb ys → Bits w pd ds → Calls Tryd.prog 16 #[.slice pa xs.length ca, .slice pb ys.length cb, .slice pd ds.length cd] w fun e w' => e = .returned (.int .i64 (cmpRow xs ys ds)) ∧ Below w.heap.size w w') := fun w a b d => rows_any xs ys ds pa pb pd ca cb cd w hA hB hD a b d
  have C2 : Hid (∀ w, Row w pb ys → Row w pa xs → Bits w pd ds → Calls Tryd.prog 16 #[.slice pb ys.length cb, .slice pa xs.length ca, .slice pd ds.length cd] w fun e w' => e = .returned (.int .i64 (-cmpRow xs ys ds)) ∧ Below w.heap.size w w') := fun w a b d => by
    have := rows_any ys xs ds pb pa pd cb ca cd w hB hA hD a b d
    rw [cmpRow_turn ys xs] at this
    exact this
  have C3 : Hid (∀ w, Row w pa xs → Bits w pd ds → Calls Tryd.prog 16 #[.slice pa xs.length ca, .slice pa xs.length ca, .slice pd ds.length cd] w fun e w' => e = .returned (.int .i64 0) ∧ Below w.heap.size w w') := fun w a d => by
    have := rows_any xs xs ds pa pa pd ca ca cd w hA hA hD a a d
    rw [cmpRow_self] at this
    exact this
  have C4 : Hid (∀ w m p c, m ≤ 140737488351232 → Row w pa xs → Row w pb ys → Bits w p (turnedL ds m) → Calls Tryd.prog 16 #[.slice pa xs.length ca, .slice pb ys.length cb, .slice p m c] w fun e w' => e = .returned (.int .i64 (cmpRow xs ys (turnedL ds m))) ∧ Below w.heap.size w w') := fun w m p c hm a b d => by
    have := rows_any xs ys (turnedL ds m) pa pb p ca cb c w hA hB (by rw [turnedL_length]; unfold maxLen; omega) a b d
    rw [turnedL_length] at this
    exact this
  have C5 : Hid (∀ m, xs.length ≤ m → xs.length = ys.length → cmpRow xs ys (turnedL ds m) = -cmpRow xs ys ds) := fun m hm hl => cmpRow_turned xs ys ds _ hl (fun i hi => turnedL_at ds m i (by omega))
  generalize cmpRow xs ys ds = x at *
  clear hw
  unfold maxLen at hA hB hD
  go_enter Tryd.func5, Tryd.ntmps5
  go_wp2_with fail
  refine (works_any _ HW.out).mono ?_
  rintro e w1 ⟨rfl, B1⟩
  go_wp2_with fail
  refine (C1.out _ (rA.below B1) (rB.below B1) (rD.below B1)).mono ?_
  rintro e w2 ⟨rfl, b2⟩
  have B2 : Below w.heap.size w w2 := B1.trans (b2.mono B1.size)
  clear b2 B1 HW C1
  go_wp2
  go_loopw [8, 9] (fun t i wr => ∃ k : Nat, (k ≤ xs.length ∨ k ≤ ys.length) ∧ i = .int .i64 k ∧ wr.ownsRow w.heap.size 4 1 t k ((turnedL ds k).map .bool) ∧ Below w.heap.size w wr) (fun _ i _ => xs.length + ys.length - (RowKit.intOf i).toNat)
  case atStart => exact ⟨0, Or.inl (Nat.zero_le _), rfl, World.ownsRow_nil _ _ _ _, B2⟩
  case round =>
    obtain ⟨k, hk, rfl, hown, bel⟩ := hrel
    by_cases hlt : k < xs.length ∨ k < ys.length
    · have hk31 : k * 32 ≤ 140737488351232 := by omega
      have hnx : ∀ b, (!(ds.getD k false)) = b → ((turnedL ds k).map Value.bool) ++ [.bool b] = (turnedL ds (k + 1)).map .bool := by
        intro b hb
        rw [turnedL_succ, hb]; simp
      have Hn : Hid (∀ b, (!(ds.getD k false)) = b → ((turnedL ds k).map Value.bool) ++ [.bool b] = (turnedL ds (k + 1)).map .bool) := hnx
      have hsz : w.heap.size ≤ wr.heap.size := bel.size
      have Hown : Hid (wr.ownsRow w.heap.size 4 1 u8 k ((turnedL ds k).map .bool)) := hown
      have HC : Hid (k < xs.length ∨ k < ys.length) := hlt
      clear hnx hown C2 C3 C4 C5
      have hx : (k < xs.length) ∨ (¬ k < xs.length ∧ k < ys.length) := by omega
      clear hlt hk
      have hbit : (ds.length ≤ k ∧ (!(ds.getD k false)) = true) ∨ (k < ds.length ∧ ∃ b3 o3, pd = some ⟨b3, o3, none⟩ ∧ wr.cell? ⟨b3, o3 + k, none⟩ = some (.bool true) ∧ (!(ds.getD k false)) = false) ∨ (k < ds.length ∧ ∃ b3 o3, pd = some ⟨b3, o3, none⟩ ∧ wr.cell? ⟨b3, o3 + k, none⟩ = some (.bool false) ∧ (!(ds.getD k false)) = true) := by
        by_cases hd : k < ds.length
        · obtain ⟨b3, o3, hp, c30⟩ := (rD.below bel).at hd
          cases hbv : ds[k]
          · exact Or.inr (Or.inr ⟨hd, b3, o3, hp, by rw [c30, hbv], by simp [hd, hbv]⟩)
          · exact Or.inr (Or.inl ⟨hd, b3, o3, hp, by rw [c30, hbv], by simp [hd, hbv]⟩)
        · exact Or.inl ⟨by omega, by simp [hd]⟩
      rcases hx with hx | ⟨hx, hy⟩
      all_goals
        rcases hbit with ⟨hd, hb⟩ | ⟨hd, b3, o3, rfl, c30, hb⟩ | ⟨hd, b3, o3, rfl, c30, hb⟩
        · have HB : Hid ((!(ds.getD k false)) = true) := hb
          clear hb
          go_wp2_with (at_builtin; refine wpList_append_own _ rfl _ _ 33 rfl w.heap.size 4 i0 (.bool false) 1 1 Tryd.underlying33 hi hz0 hz1 hz2 rfl (by decide) _ _ _ rfl (Hown.out.alloc _) ⟨_, 0, none⟩ 1 1 [.bool true] rfl rfl ?c1 ?c2 ?c3 ?c4 ?c5 ?_)
          case c1 =>
            intro j u hj
            match j, hj with
            | 0, hj => simp at hj; subst hj; simp [Addr.add] <;> omega
          case c2 => intro u hu; simp at hu; subst hu; rfl
          case c3 => unfold maxLen; omega
          case c4 => omega
          case c5 => simp; omega
          intro v' w3 hown' hgrow _
          rw [Hn.out true HB.out] at hown'
          have B3 : Below w.heap.size w w3 := ((bel.alloc hsz _).grown hgrow (by simp; omega) (fun k hk => (Hown.out.lt k hk).1))
          have Hown' : Hid (w3.ownsRow w.heap.size 4 1 v' (k + 1) ((turnedL ds (k + 1)).map .bool)) := hown'
          clear hown' hgrow Hown
          go_wp2
          go_roundw
          case rel => exact ⟨k + 1, HC.out.imp (fun h => by omega) (fun h => by omega), by go_num, Hown'.out, B3⟩
          case measure => simp [RowKit.intOf]; omega
        · have HB : Hid ((!(ds.getD k false)) = false) := hb
          clear hb
          go_wp2_with (at_builtin; refine wpList_append_own _ rfl _ _ 33 rfl w.heap.size 4 i0 (.bool false) 1 1 Tryd.underlying33 hi hz0 hz1 hz2 rfl (by decide) _ _ _ rfl (Hown.out.alloc _) ⟨_, 0, none⟩ 1 1 [.bool false] rfl rfl ?c1 ?c2 ?c3 ?c4 ?c5 ?_)
          case c1 =>
            intro j u hj
            match j, hj with
            | 0, hj => simp at hj; subst hj; simp [Addr.add] <;> omega
          case c2 => intro u hu; simp at hu; subst hu; rfl
          case c3 => unfold maxLen; omega
          case c4 => omega
          case c5 => simp; omega
          intro v' w3 hown' hgrow _
          rw [Hn.out false HB.out] at hown'
          have B3 : Below w.heap.size w w3 := ((bel.alloc hsz _).grown hgrow (by simp; omega) (fun k hk => (Hown.out.lt k hk).1))
          have Hown' : Hid (w3.ownsRow w.heap.size 4 1 v' (k + 1) ((turnedL ds (k + 1)).map .bool)) := hown'
          clear hown' hgrow Hown
          go_wp2
          go_roundw
          case rel => exact ⟨k + 1, HC.out.imp (fun h => by omega) (fun h => by omega), by go_num, Hown'.out, B3⟩
          case measure => simp [RowKit.intOf]; omega
        · have HB : Hid ((!(ds.getD k false)) = true) := hb
          clear hb
          go_wp2_with (at_builtin; refine wpList_append_own _ rfl _ _ 33 rfl w.heap.size 4 i0 (.bool false) 1 1 Tryd.underlying33 hi hz0 hz1 hz2 rfl (by decide) _ _ _ rfl (Hown.out.alloc _) ⟨_, 0, none⟩ 1 1 [.bool true] rfl rfl ?c1 ?c2 ?c3 ?c4 ?c5 ?_)
          case c1 =>
            intro j u hj
            match j, hj with
            | 0, hj => simp at hj; subst hj; simp [Addr.add] <;> omega
          case c2 => intro u hu; simp at hu; subst hu; rfl
          case c3 => unfold maxLen; omega
          case c4 => omega
          case c5 => simp; omega
          intro v' w3 hown' hgrow _
          rw [Hn.out true HB.out] at hown'
          have B3 : Below w.heap.size w w3 := ((bel.alloc hsz _).grown hgrow (by simp; omega) (fun k hk => (Hown.out.lt k hk).1))
          have Hown' : Hid (w3.ownsRow w.heap.size 4 1 v' (k + 1) ((turnedL ds (k + 1)).map .bool)) := hown'
          clear hown' hgrow Hown
          go_wp2
          go_roundw
          case rel => exact ⟨k + 1, HC.out.imp (fun h => by omega) (fun h => by omega), by go_num, Hown'.out, B3⟩
          case measure => simp [RowKit.intOf]; omega
    · obtain ⟨hkm, p, cap, rfl, _, rT⟩ := Bits.of_owns hown
      rw [turnedL_length] at hkm
      have hkx : xs.length ≤ k := by omega
      have hky : ys.length ≤ k := by omega
      have hlx : ¬ k < xs.length := by omega
      have hly : ¬ k < ys.length := by omega
      clear hlt hown
      have hk47 : k ≤ 140737488351232 := by omega
      rw [turnedL_length]
      go_wp2_with fail
      refine (C4.out _ k p cap hk47 (rA.below bel) (rB.below bel) rT).mono ?_
      rintro e w3 ⟨rfl, b3⟩
      have B3 : Below w.heap.size w w3 := bel.trans (b3.mono bel.size)
      have HT := C5.out k hkx
      generalize cmpRow xs ys (turnedL ds k) = y at *
      have HT' : Hid (xs.length = ys.length → y = -x) := HT
      clear HT b3 rT bel C4 C5
      go_wp2_with fail
      refine (C2.out _ (rB.below B3) (rA.below B3) (rD.below B3)).mono ?_
      rintro e w4 ⟨rfl, b4⟩
      have B4 : Below w.heap.size w w4 := B3.trans (b4.mono B3.size)
      clear b4 B3 C2
      have hneg : (x == - -x) = true := by simp
      by_cases hl : xs.length = ys.length
      · have l1 : (((xs.length : Nat) : Int) != (ys.length : Int)) = false := by simp [hl]
        obtain rfl := HT'.out hl
        have HL : Hid (xs.length = ys.length) := hl
        clear hl HT'
        go_wp2_with fail
        refine (C3.out _ (rA.below B4) (rD.below B4)).mono ?_
        rintro e w5 ⟨rfl, b5⟩
        have B5 : Below w.heap.size w w5 := B4.trans (b5.mono B4.size)
        clear b5 B4
        go_wp2
        go_ret
        exact ⟨rfl, B5⟩
      · have l1 : (((xs.length : Nat) : Int) != (ys.length : Int)) = true := by simp; omega
        clear hl HT'
        go_wp2_with fail
        refine (C3.out _ (rA.below B4) (rD.below B4)).mono ?_
        rintro e w5 ⟨rfl, b5⟩
        have B5 : Below w.heap.size w w5 := B4.trans (b5.mono B4.size)
        clear b5 B4
        go_wp2
        go_ret
        exact ⟨rfl, B5⟩
end Go.Proofs.YtlhknlbofcflcaaDoor
