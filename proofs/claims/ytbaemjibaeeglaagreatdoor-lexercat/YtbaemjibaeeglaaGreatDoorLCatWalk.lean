/- The law LexerCat returns true and writes nothing that was there. Conditions: the texts lie within the reach; the library's variables hold what their text lays. -/
import Derived.Test.YtbaemjibaeeglaaGreatDoorLxWorks
import Derived.Test.YtbaemjibaeeglaaGreatDoorLxCatP
namespace Go.Proofs.YtbaemjibaeeglaaGreatDoor
open Go.RowKit Go.Lib Go.Sort
set_option linter.unusedVariables false
set_option maxRecDepth 20000

theorem below_drewN {B : Nat} {a w : World} (n : Nat) (h : Below B a w) : Below B a (w.drewN n) := ⟨h.os, h.tape, h.output, h.size, h.block⟩
theorem toks_place : ∀ (f : Nat) (l : List UInt8) (i : Nat) (xs : List (Tk × Nat)), toks f l i = .ok xs → ∀ x ∈ xs, x.2 < i + l.length
  | 0, _, _, xs, h, x, hx => by simp only [toks, Except.ok.injEq] at h; subst h; simp at hx
  | f + 1, [], i, xs, h, x, hx => by simp only [toks, Except.ok.injEq] at h; subst h; simp at hx
  | f + 1, c :: r, i, xs, h, x, hx => by
    rw [toks] at h
    by_cases hb : blk (bi c) = true
    · rw [if_pos hb] at h
      have := toks_place f r _ xs h x hx
      simp at this ⊢
      omega
    · rw [if_neg hb] at h
      by_cases hR : isR (c :: r) = true
      · rw [if_pos hR] at h
        have := toks_place f _ _ xs h x hx
        have hle := cntW_le notLF (c :: r)
        rw [List.length_drop] at this
        omega
      · rw [if_neg hR] at h
        cases h1 : first1 (c :: r) with
        | none => rw [h1] at h; simp at h
        | some y =>
          obtain ⟨t, k⟩ := y
          have hk := first1_ge h1
          rw [h1] at h
          simp only [] at h
          cases h2 : toks f ((c :: r).drop k) (i + k) with
          | error j => rw [h2] at h; simp [Except.map] at h
          | ok ys =>
            rw [h2] at h
            simp only [Except.map, Except.ok.injEq] at h
            subst h
            rcases List.mem_cons.1 hx with rfl | hx
            · simp
            · have := toks_place f _ _ ys h2 x hx
              rw [List.length_drop] at this
              omega
theorem toks_len : ∀ (f : Nat) (l : List UInt8) (i : Nat) (xs : List (Tk × Nat)), toks f l i = .ok xs → xs.length ≤ l.length
  | 0, _, _, xs, h => by simp only [toks, Except.ok.injEq] at h; subst h; simp
  | f + 1, [], i, xs, h => by simp only [toks, Except.ok.injEq] at h; subst h; simp
  | f + 1, c :: r, i, xs, h => by
    rw [toks] at h
    by_cases hb : blk (bi c) = true
    · rw [if_pos hb] at h
      have := toks_len f r _ xs h
      simp
      omega
    · rw [if_neg hb] at h
      by_cases hR : isR (c :: r) = true
      · rw [if_pos hR] at h
        have := toks_len f _ _ xs h
        rw [List.length_drop] at this
        omega
      · rw [if_neg hR] at h
        cases h1 : first1 (c :: r) with
        | none => rw [h1] at h; simp at h
        | some y =>
          obtain ⟨t, k⟩ := y
          have hk := first1_ge h1
          rw [h1] at h
          simp only [] at h
          cases h2 : toks f ((c :: r).drop k) (i + k) with
          | error j => rw [h2] at h; simp [Except.map] at h
          | ok ys =>
            rw [h2] at h
            simp only [Except.map, Except.ok.injEq] at h
            subst h
            have := toks_len f _ _ ys h2
            rw [List.length_drop] at this
            have hk1 := hk.1
            simp only [List.length_cons] at this ⊢
            omega
theorem lexR_ok {l : List UInt8} {xs : List (Tk × Nat)} (h : lexR l = .ok xs) : l.length ≤ 16384 ∧ toksOf l = .ok xs := by
  unfold lexR at h
  split at h
  · cases h
  · cases ht : toksOf l with
    | error j => rw [ht] at h; cases h
    | ok ys => rw [ht] at h; cases h; exact ⟨by omega, rfl⟩
theorem lexR_of {l : List UInt8} {xs : List (Tk × Nat)} (hl : l.length ≤ 16384) (h : toksOf l = .ok xs) : lexR l = .ok xs := by
  unfold lexR
  rw [if_neg (by omega), h]
  rfl

set_option maxHeartbeats 4000000 in
theorem lcat_bad1 (a b : ByteArray) (i : Nat) (n : Int) (w : World) (ha : a.size ≤ 140737488351232) (hb : b.size ≤ 140737488351232) (hw : Rdy w) (hE : ErrT w) (h1 : lexR a.data.toList = .error (i, n)) :
    Calls Tryz.prog 6 #[.string a, .string b] w fun e w' => e = .returned (.bool true) ∧ Below w.heap.size w w' := by
  have C0 := hid (works_any w hw hE)
  have C1 := hid (fun w hw => xtok_err a i n w ha hw h1)
  have HW := hid hw
  clear hE h1
  rcases h2 : lexR b.data.toList with ⟨j, m⟩ | ys
  · have C2 := hid (fun w hw => xtok_err b j m w hb hw h2)
    clear hw h2
    go_enter Tryz.func6, Tryz.ntmps6
    go_wp2_with (first
      | (go_at_call 11; with_reducible refine C0.out.mono ?_; rintro e w1 ⟨rfl, b1⟩; have B1 := hid b1; clear b1)
      | (go_at_call 7; with_reducible refine (C1.out _ (HW.out.below B1.out)).mono ?_; rintro e w2 ⟨p2, rfl, x0, x1, b2⟩; have B2 := hid (B1.out.trans (b2.mono B1.out.size)); clear b2 x0 x1 C1)
      | (go_at_call 7; with_reducible refine (C2.out _ (HW.out.below B2.out)).mono ?_; rintro e w3 ⟨p3, rfl, y0, y1, b3⟩; have B3 := hid (B2.out.trans (b3.mono B2.out.size)); clear b3 y0 y1))
    go_ret
    exact ⟨rfl, B3.out⟩
  · have C2 := hid (fun w hw => xtok_ok b ys w hb hw h2)
    clear hw h2
    go_enter Tryz.func6, Tryz.ntmps6
    go_wp2_with (first
      | (go_at_call 11; with_reducible refine C0.out.mono ?_; rintro e w1 ⟨rfl, b1⟩; have B1 := hid b1; clear b1)
      | (go_at_call 7; with_reducible refine (C1.out _ (HW.out.below B1.out)).mono ?_; rintro e w2 ⟨p2, rfl, x0, x1, b2⟩; have B2 := hid (B1.out.trans (b2.mono B1.out.size)); clear b2 x0 x1 C1)
      | (go_at_call 7; with_reducible refine (C2.out _ (HW.out.below B2.out)).mono ?_; rintro e w3 ⟨p3, c3, rfl, y0, y1, b3⟩; have B3 := hid (B2.out.trans (b3.mono B2.out.size)); clear b3 y0 y1))
    go_ret
    exact ⟨rfl, B3.out⟩

set_option maxHeartbeats 4000000 in
theorem lcat_bad2 (a b : ByteArray) (xs : List (Tk × Nat)) (i : Nat) (n : Int) (w : World) (ha : a.size ≤ 140737488351232) (hb : b.size ≤ 140737488351232) (hw : Rdy w) (hE : ErrT w) (h1 : lexR a.data.toList = .ok xs) (h2 : lexR b.data.toList = .error (i, n)) :
    Calls Tryz.prog 6 #[.string a, .string b] w fun e w' => e = .returned (.bool true) ∧ Below w.heap.size w w' := by
  have C0 := hid (works_any w hw hE)
  have C1 := hid (fun w hw => xtok_ok a xs w ha hw h1)
  have C2 := hid (fun w hw => xtok_err b i n w hb hw h2)
  have HW := hid hw
  clear hE h1 h2 hw
  go_enter Tryz.func6, Tryz.ntmps6
  go_wp2_with (first
    | (go_at_call 11; with_reducible refine C0.out.mono ?_; rintro e w1 ⟨rfl, b1⟩; have B1 := hid b1; clear b1)
    | (go_at_call 7; with_reducible refine (C1.out _ (HW.out.below B1.out)).mono ?_; rintro e w2 ⟨p2, c2, rfl, x0, x1, b2⟩; have B2 := hid (B1.out.trans (b2.mono B1.out.size)); clear b2 x0 x1 C1)
    | (go_at_call 7; with_reducible refine (C2.out _ (HW.out.below B2.out)).mono ?_; rintro e w3 ⟨p3, rfl, y0, y1, b3⟩; have B3 := hid (B2.out.trans (b3.mono B2.out.size)); clear b3 y0 y1))
  go_ret
  exact ⟨rfl, B3.out⟩

set_option maxHeartbeats 8000000 in
theorem lcat_good (a b : ByteArray) (xs ys : List (Tk × Nat)) (w : World) (ha : a.size ≤ 140737488351232) (hb : b.size ≤ 140737488351232) (hw : Rdy w) (hE : ErrT w) (h1 : lexR a.data.toList = .ok xs) (h2 : lexR b.data.toList = .ok ys) :
    Calls Tryz.prog 6 #[.string a, .string b] w fun e w' => e = .returned (.bool true) ∧ Below w.heap.size w w' := by
  have C0 := hid (works_any w hw hE)
  have C1 := hid (fun w hw => xtok_ok a xs w ha hw h1)
  have C2 := hid (fun w hw => xtok_ok b ys w hb hw h2)
  obtain ⟨la, ta⟩ := lexR_ok h1
  obtain ⟨lb, tb⟩ := lexR_ok h2
  have hal : a.data.toList.length = a.size := by simp
  have hbl : b.data.toList.length = b.size := by simp
  rw [hal] at la
  rw [hbl] at lb
  have HW := hid hw
  clear h1 h2 hw hE
  by_cases hlong : 16384 ≤ a.size + b.size
  · have hz : (16384 : Int) ≤ (a.size : Int) + (b.size : Int) := by omega
    clear ta tb hal hbl
    go_enter Tryz.func6, Tryz.ntmps6
    go_wp2_with (first
      | (go_at_call 11; with_reducible refine C0.out.mono ?_; rintro e w1 ⟨rfl, b1⟩; have B1 := hid b1; clear b1)
      | (go_at_call 7; with_reducible refine (C1.out _ (HW.out.below B1.out)).mono ?_; rintro e w2 ⟨p2, c2, rfl, x0, x1, b2⟩; have B2 := hid (B1.out.trans (b2.mono B1.out.size)); clear b2 x0 x1 C1)
      | (go_at_call 7; with_reducible refine (C2.out _ (HW.out.below B2.out)).mono ?_; rintro e w3 ⟨p3, c3, rfl, y0, y1, b3⟩; have B3 := hid (B2.out.trans (b3.mono B2.out.size)); clear b3 y0 y1))
    go_ret
    exact ⟨rfl, B3.out⟩
  · have hz : ¬ (16384 : Int) ≤ (a.size : Int) + (b.size : Int) := by omega
    have hcat : (a ++ ⟨#[10]⟩ ++ b).data.toList = a.data.toList ++ 10 :: b.data.toList := by simp
    have hcs : (a ++ ⟨#[10]⟩ ++ b).size = a.size + 1 + b.size := by simp [ByteArray.size_append]; rfl
    have hL := lexR_of (l := (a ++ ⟨#[10]⟩ ++ b).data.toList) (by rw [hcat]; simp at hal hbl ⊢; omega) (by rw [hcat]; exact toksOf_cat ta tb)
    have C3 := hid (fun w hw => xtok_ok (a ++ ⟨#[10]⟩ ++ b) _ w (by rw [hcs]; omega) hw hL)
    have hpl := toks_place _ _ _ _ tb
    rw [hal] at C3
    have hlen : (xs ++ ys.map fun z => (z.1, z.2 + (a.size + 1))).length = xs.length + ys.length := by simp
    rw [hlen] at C3
    have HZ1 : Hid (∀ k (h : k < xs.length) (h' : k < (xs ++ ys.map fun z => (z.1, z.2 + (a.size + 1))).length), (xs ++ ys.map fun z => (z.1, z.2 + (a.size + 1)))[k] = xs[k]) := fun k h h' => List.getElem_append_left h
    have HZ2 : Hid (∀ j (h : j < ys.length) (h' : xs.length + j < (xs ++ ys.map fun z => (z.1, z.2 + (a.size + 1))).length), (xs ++ ys.map fun z => (z.1, z.2 + (a.size + 1)))[xs.length + j] = (ys[j].1, ys[j].2 + (a.size + 1))) := fun j h h' => by
      rw [List.getElem_append_right (Nat.le_add_right _ _)]
      simp
    have HLN := hid hlen
    have HPL : Hid (∀ j (h : j < ys.length), ys[j].2 < b.size) := fun j h => by
      have := hpl _ (List.getElem_mem h)
      omega
    have hxl : xs.length ≤ 16384 := by have := toks_len _ _ _ _ ta; omega
    have hyl : ys.length ≤ 16384 := by have := toks_len _ _ _ _ tb; omega
    clear ta tb hcat hL hpl hlen hal hbl hcs hlong
    generalize (xs ++ ys.map fun z => (z.1, z.2 + (a.size + 1))) = zs at *
    obtain ⟨N, hN⟩ : ∃ N, N = xs.length + ys.length := ⟨_, rfl⟩
    rw [← hN] at C3
    have hNi : (xs.length : Int) + (ys.length : Int) = (N : Int) := by omega
    have HNN := hid hN
    clear hN
    have HLA := hid la
    have HLB := hid lb
    have hz' : (decide ((16384 : Int) ≤ (a.size : Int) + (b.size : Int))) = false := decide_eq_false hz
    have HZZ := hid hz
    clear la lb hz
    go_enter Tryz.func6, Tryz.ntmps6
    go_wp2_with (first
      | (go_at_call 11; with_reducible refine C0.out.mono ?_; rintro e w1 ⟨rfl, b1⟩; have B1 := hid b1; clear b1)
      | (go_at_call 7; with_reducible refine (C1.out _ (HW.out.below B1.out)).mono ?_; rintro e w2 ⟨p2, c2, rfl, t2, m2, b2⟩; have B2 := hid (B1.out.trans (b2.mono B1.out.size)); have T2 := hid t2; clear t2 b2 C1 m2)
      | (go_at_call 7; with_reducible refine (C2.out _ (HW.out.below B2.out)).mono ?_; rintro e w3 ⟨p3, c3, rfl, t3, m3, b3⟩; have B3 := hid (B2.out.trans (b3.mono B2.out.size)); have T3 := hid t3; have T23 := hid (T2.out.below b3); clear t3 b3 C2 m3)
      | (go_at_call 7; go_loud (with_reducible refine (C3.out _ (HW.out.below B3.out)).mono ?_); rintro e w4 ⟨p4, c4, rfl, t4, m4, b4⟩; have B4 := hid (B3.out.trans (b4.mono B3.out.size)); have T4 := hid t4; have T24 := hid (T23.out.below b4); have T34 := hid (T3.out.below b4); clear t4 b4 m4))
    go_loopw [11] (fun i wr => ∃ k : Nat, i = .int .i64 k ∧ k ≤ N ∧ Hid (Below w4.heap.size w4 wr)) (fun i _ => N - (RowKit.intOf i).toNat)
    case atStart => exact ⟨0, rfl, Nat.zero_le _, Below.refl _ _⟩
    case round =>
      obtain ⟨k, rfl, hk, bel⟩ := hrel
      by_cases hlt : k < N
      · have hkz : (k : Int) < (N : Int) := by omega
        have hkl : k < zs.length := by rw [HLN.out, ← HNN.out]; exact hlt
        obtain ⟨bz, oz, rfl, z0, z1, z2, z3⟩ := (T4.out.below bel.out).at hkl
        by_cases hx : k < xs.length
        · have hxz : (k : Int) < (xs.length : Int) := by omega
          obtain ⟨bx, ox, rfl, x0, x1, x2, x3⟩ := (T24.out.below bel.out).at hx
          rw [HZ1.out k hx hkl] at z0 z1 z2 z3
          generalize xs[k] = u at *
          obtain ⟨⟨uk, us, un⟩, ui⟩ := u
          simp only [] at z0 z1 z2 z3 x0 x1 x2 x3
          go_wp2_with fail
          have bA : Below wr.heap.size wr (wr.alloc (.cells #[.int .i64 uk, .string ⟨us.toArray⟩, .int .i64 (ui : Int), .int .i64 un] 38)) := (Below.refl _ _).alloc (Nat.le_refl _) _
          have t0 : (wr.alloc (.cells #[.int .i64 uk, .string ⟨us.toArray⟩, .int .i64 (ui : Int), .int .i64 un] 38)).cell? ⟨wr.heap.size, 0, none⟩ = some (.int .i64 uk) := by go_simp
          have t1 : (wr.alloc (.cells #[.int .i64 uk, .string ⟨us.toArray⟩, .int .i64 (ui : Int), .int .i64 un] 38)).cell? ⟨wr.heap.size, 1, none⟩ = some (.string ⟨us.toArray⟩) := by go_simp
          have t2 : (wr.alloc (.cells #[.int .i64 uk, .string ⟨us.toArray⟩, .int .i64 (ui : Int), .int .i64 un] 38)).cell? ⟨wr.heap.size, 2, none⟩ = some (.int .i64 (ui : Int)) := by go_simp
          have t3 : (wr.alloc (.cells #[.int .i64 uk, .string ⟨us.toArray⟩, .int .i64 (ui : Int), .int .i64 un] 38)).cell? ⟨wr.heap.size, 3, none⟩ = some (.int .i64 un) := by go_simp
          have y0 := lxbelow_cell bA x0
          have y1 := lxbelow_cell bA x1
          have y2 := lxbelow_cell bA x2
          have y3 := lxbelow_cell bA x3
          have BW := hid (bel.out.trans (bA.mono bel.out.size))
          clear x0 x1 x2 x3 z0 z1 z2 z3 bA bel
          generalize wr.alloc (.cells #[.int .i64 uk, .string ⟨us.toArray⟩, .int .i64 (ui : Int), .int .i64 un] 38) = W at *
          go_quiet (fail)
          go_wp2_with fail
          go_roundw
          case rel => exact ⟨k + 1, by go_num, by omega, below_drewN _ BW.out⟩
          case measure => simp [RowKit.intOf]; omega
        · obtain ⟨j, hj⟩ : ∃ j, k = xs.length + j := ⟨k - xs.length, by omega⟩
          have hxz : ¬ (k : Int) < (xs.length : Int) := by omega
          have hjl : j < ys.length := by have := HNN.out; omega
          have hji : (k : Int) - (xs.length : Int) = (j : Int) := by omega
          obtain ⟨bx, ox, rfl, x0, x1, x2, x3⟩ := (T34.out.below bel.out).at hjl
          have hZ : zs[k] = (ys[j].1, ys[j].2 + (a.size + 1)) := by
            subst hj
            exact HZ2.out j hjl hkl
          rw [hZ] at z0 z1 z2 z3
          have hpb := HPL.out j hjl
          have hjz : (j : Int) < (ys.length : Int) := by omega
          clear hZ hj
          generalize ys[j] = u at *
          obtain ⟨⟨uk, us, un⟩, ui⟩ := u
          simp only [] at z0 z1 z2 z3 x0 x1 x2 x3 hpb
          obtain ⟨q, hq⟩ : ∃ q, q = ui + (a.size + 1) := ⟨_, rfl⟩
          rw [← hq] at z2
          have hqi : (q : Int) - (a.size : Int) - 1 = (ui : Int) := by omega
          have hqb : q ≤ 281474976710656 := by omega
          clear hq
          go_wp2_with fail
          have bA : Below wr.heap.size wr (wr.alloc (.cells #[.int .i64 uk, .string ⟨us.toArray⟩, .int .i64 (ui : Int), .int .i64 un] 38)) := (Below.refl _ _).alloc (Nat.le_refl _) _
          have t0 : (wr.alloc (.cells #[.int .i64 uk, .string ⟨us.toArray⟩, .int .i64 (ui : Int), .int .i64 un] 38)).cell? ⟨wr.heap.size, 0, none⟩ = some (.int .i64 uk) := by go_simp
          have t1 : (wr.alloc (.cells #[.int .i64 uk, .string ⟨us.toArray⟩, .int .i64 (ui : Int), .int .i64 un] 38)).cell? ⟨wr.heap.size, 1, none⟩ = some (.string ⟨us.toArray⟩) := by go_simp
          have t2 : (wr.alloc (.cells #[.int .i64 uk, .string ⟨us.toArray⟩, .int .i64 (ui : Int), .int .i64 un] 38)).cell? ⟨wr.heap.size, 2, none⟩ = some (.int .i64 (ui : Int)) := by go_simp
          have t3 : (wr.alloc (.cells #[.int .i64 uk, .string ⟨us.toArray⟩, .int .i64 (ui : Int), .int .i64 un] 38)).cell? ⟨wr.heap.size, 3, none⟩ = some (.int .i64 un) := by go_simp
          have y0 := lxbelow_cell bA x0
          have y1 := lxbelow_cell bA x1
          have y2 := lxbelow_cell bA x2
          have y3 := lxbelow_cell bA x3
          have BW := hid (bel.out.trans (bA.mono bel.out.size))
          clear x0 x1 x2 x3 z0 z1 z2 z3 bA bel
          generalize wr.alloc (.cells #[.int .i64 uk, .string ⟨us.toArray⟩, .int .i64 (ui : Int), .int .i64 un] 38) = W at *
          go_quiet (fail)
          go_wp2_with fail
          go_roundw
          case rel => exact ⟨k + 1, by go_num, by omega, below_drewN _ BW.out⟩
          case measure => simp [RowKit.intOf]; omega
      · have hkz : ¬ (k : Int) < (N : Int) := by omega
        go_wp2_with fail
        go_ret
        exact ⟨rfl, B4.out.trans (bel.out.mono B4.out.size)⟩
theorem lcat_any (a b : ByteArray) (w : World) (ha : a.size ≤ 140737488351232) (hb : b.size ≤ 140737488351232) (hw : Rdy w) (hE : ErrT w) :
    Calls Tryz.prog 6 #[.string a, .string b] w fun e w' => e = .returned (.bool true) ∧ Below w.heap.size w w' := by
  rcases h1 : lexR a.data.toList with ⟨i, n⟩ | xs
  · exact lcat_bad1 a b i n w ha hb hw hE h1
  · rcases h2 : lexR b.data.toList with ⟨i, n⟩ | ys
    · exact lcat_bad2 a b xs i n w ha hb hw hE h1 h2
    · exact lcat_good a b xs ys w ha hb hw hE h1 h2
end Go.Proofs.YtbaemjibaeeglaaGreatDoor
