/- The document's Load; what its Open and Read answer over the disk that it made. Condition: fewer than a million writes are pending. -/
import Derived.Test.YtnecigbncggogaaPgJoinC
namespace Go.Proofs.Ytnecigbncggogaa
open Go.RowKit
set_option linter.unusedVariables false
set_option maxRecDepth 20000

/-- The document's disk as its Load makes it. -/
def RX (w : World) (rb : Nat) (r : Dk) : Prop := ∃ (l : List UInt8) (lb c : Nat), r = loaded l ∧ r.ok ∧ l.length = r.pages * 512 ∧ l.length ≤ c ∧ Blk w rb [.slice (some ⟨lb, 0, none⟩) l.length c, .slice none 0 0, .int .i64 (-1), .bool false] 49 ∧ Byts w (some ⟨lb, 0, none⟩) l
variable {w : World} {rb : Nat} {r : Dk}
theorem RX.okk (h : RX w rb r) : r.ok := by obtain ⟨l, lb, c, _, h, _⟩ := h; exact h
theorem RX.grow (h : RX w rb r) {w' : World} (B : Below w.heap.size w w') : RX w' rb r := by
  obtain ⟨l, lb, c, h1, h2, h3, h4, h5, h6⟩ := h
  exact ⟨l, lb, c, h1, h2, h3, h4, h5.below B h5.lt, h6.below B⟩
set_option maxHeartbeats 1000000 in
theorem RX.pages (h : RX w rb r) : Calls Try.prog 45 #[.pointer (some ⟨rb, 0, none⟩)] w fun e w' => e = .returned (.int .i64 (r.pages : Int)) ∧ w' = w := by
  obtain ⟨l, lb, c, h1, h2, h3, h4, h5, h6⟩ := h
  have c0 : w.cell? ⟨rb, 0, none⟩ = some (.slice (some ⟨lb, 0, none⟩) l.length c) := h5.cell 0
  have hp := h2.pages
  have hd : Int.tdiv (l.length : Int) 512 = (r.pages : Int) := by
    have : Int.tdiv (l.length : Int) 512 = ((l.length / 512 : Nat) : Int) := rfl
    rw [this, h3]
    omega
  have hb : (l.length : Int) ≤ 2097152 := by omega
  clear h1 h2 h3 h4 h5 h6
  generalize l.length = m at *
  generalize r.pages = P at *
  go_enter Try.func45, Try.ntmps45
  go_wp2
  go_ret
  exact ⟨rfl, rfl⟩
set_option maxHeartbeats 1000000 in
theorem RX.hasp (h : RX w rb r) (m : Nat) (hm : m < r.pages) :
    Calls Try.prog 56 #[.pointer (some ⟨rb, 0, none⟩), .int .i64 (m : Int)] w fun e w' => ∃ v, e = .returned v ∧ OwnB w' w.heap.size v (r.has (m : Int)) ∧ Below w.heap.size w w' := by
  obtain ⟨l, lb, c, h1, h2, h3, h4, h5, h6⟩ := h
  have c0 : w.cell? ⟨rb, 0, none⟩ = some (.slice (some ⟨lb, 0, none⟩) l.length c) := h5.cell 0
  have c1 : w.cell? ⟨rb, 1, none⟩ = some (.slice none 0 0) := h5.cell 1
  have hp := h2.pages
  have hm1 : (m : Int) < 4096 := by omega
  have hm2 : m * 512 + 512 ≤ c := by omega
  have HL : Hid ((r.has (m : Int)).length = 512) := h2.has _
  have HB : Hid (Byts w (some ⟨lb, m * 512, none⟩) (r.has (m : Int))) := by
    show Byts _ _ _
    have e : r.has (m : Int) = slot l m := by rw [h1]; exact loaded_has (by omega)
    rw [e]
    have q := slot_byts h6 m
    rwa [Nat.zero_add] at q
  have HX : Hid (Byts (w.alloc (.cells #[] 5)) (some ⟨lb, m * 512, none⟩) (r.has (m : Int))) := HB.out.alloc _
  have HO := hid (own_new w)
  have HBl : Hid (Below w.heap.size w (w.alloc (.cells #[] 5))) := (Below.refl _ _).alloc (Nat.le_refl _) _
  clear h1 h2 h3 h5 h6 hm hp h4
  generalize r.has (m : Int) = hs at *
  go_enter Try.func56, Try.ntmps56
  go_wp2
  go_loopw [5, 6] (fun b i wr => i = .int .i64 0 ∧ b = .slice (some ⟨lb, m * 512, none⟩) 512 (c - m * 512) ∧ wr = w) (fun _ i _ => 0)
  case atStart => exact ⟨rfl, by rw [Nat.add_sub_cancel_left], rfl⟩
  case round =>
    obtain ⟨rfl, rfl, rfl⟩ := hrel
    go_wp2_with (first
      | (at_builtin; go_loud (refine appBlk wr.heap.size _ _ _ [] hs rfl rfl rfl _ _ _ _ rfl ?hn ?hO ?hX ?hm ?hl ?hb ?_; (case hn => exact HL.out.symm); (case hO => exact HO.out); (case hX => exact HX.out); (case hm => rw [HL.out]; omega); (case hl => rw [HL.out]; simp); (case hb => simp); intro v' w' O' G' A'; have HG' := hid G'; have HO' := hid O'; clear O' G' A'; try go_frame))
      | fail)
    go_ret
    exact ⟨_, rfl, HO'.out, below_own HBl.out HG'.out (by simp) (fun k hk => (World.ownsRow.lt HO.out k hk).1)⟩
set_option maxHeartbeats 1000000 in
theorem RX.readBad (h : RX w rb r) (n : Int) (hr : r.reach n ≠ 0) :
    Calls Try.prog 67 #[.pointer (some ⟨rb, 0, none⟩), .int .i64 n] w fun e w' => e = .returned (.tuple #[.slice none 0 0, .int .i64 (r.reach n)]) ∧ w' = w := by
  have P := h.pages
  obtain ⟨l, lb, c, h1, h2, h3, h4, h5, h6⟩ := h
  have c3 : w.cell? ⟨rb, 3, none⟩ = some (.bool false) := h5.cell 3
  have hd : r.down = false := by rw [h1]; exact (loaded_free l).1
  have hrr : r.reach n = if r.down then 9 else if n < 0 ∨ (r.pages : Int) ≤ n then 2 else 0 := rfl
  rw [hd] at hrr
  simp only [Bool.false_eq_true, if_false] at hrr
  generalize r.reach n = q at *
  clear h1 h2 h3 h4 h5 h6 hd
  by_cases h1 : n < 0
  · rw [if_pos (Or.inl h1)] at hrr
    subst hrr
    go_enter Try.func67, Try.ntmps67
    go_wp2
    go_ret2
    exact ⟨rfl, rfl⟩
  · by_cases h2 : (r.pages : Int) ≤ n
    · rw [if_pos (Or.inr h2)] at hrr
      subst hrr
      go_enter Try.func67, Try.ntmps67
      go_wp2_with (first
        | (go_at_call 45; with_reducible refine P.mono ?_; rintro e w3 ⟨rfl, hw⟩; subst hw)
        | fail)
      go_ret2
      exact ⟨rfl, rfl⟩
    · rw [if_neg (by omega)] at hrr
      exact absurd hrr hr
set_option maxHeartbeats 1000000 in
theorem RX.read (h : RX w rb r) (n : Int) (hr : r.reach n = 0) (hm : r.pend.length < 1000000) :
    Calls Try.prog 67 #[.pointer (some ⟨rb, 0, none⟩), .int .i64 n] w fun e w' => ∃ g c, e = .returned (.tuple #[.slice (some ⟨g, 0, none⟩) 512 c, .int .i64 0]) ∧ Byts w' (some ⟨g, 0, none⟩) (r.has n) ∧ 512 ≤ c ∧ Below w.heap.size w w' := by
  have hl := h.okk.has n
  have hh := h
  obtain ⟨l, lb, c, h1, h2, h3, h4, h5, h6⟩ := h
  have c3 : w.cell? ⟨rb, 3, none⟩ = some (.bool false) := h5.cell 3
  have P := hh.pages
  obtain ⟨hd, h0, hn⟩ := Dk.reach_ok hr
  obtain ⟨m, rfl⟩ := Int.eq_ofNat_of_zero_le h0
  have R := hh.hasp m (by omega)
  have HL := hid hl
  clear h1 h2 h3 h4 h5 h6 hh hr hm hd hl
  generalize r.has (m : Int) = x at *
  go_enter Try.func67, Try.ntmps67
  go_wp2_with (first
    | (go_at_call 45; with_reducible refine P.mono ?_; rintro e w3 ⟨rfl, hw⟩; subst hw)
    | (go_at_call 56; with_reducible refine R.mono ?_; rintro e w4 ⟨v4, rfl, O4, B4⟩; have HO4 := hid O4; have HB4 := hid B4; clear O4 B4)
    | fail)
  go_ret2
  have O := HO4.out
  obtain ⟨g, c, rfl, _, hc, _⟩ := own_is' O (by rw [HL.out]; omega)
  rw [HL.out] at O hc ⊢
  exact ⟨g, c, rfl, own_bts O, hc, HB4.out⟩
set_option maxHeartbeats 1000000 in
/-- The document's Load of a right image. -/
theorem rload_rx (l : List UInt8) (g off : Nat) (c : Nat) (w : World) (h0 : 0 < l.length) (h1 : l.length % 512 = 0) (h2 : l.length ≤ 2097152) (hB : Byts w (some ⟨g, off, none⟩) l) (hok : (loaded l).ok) :
    Calls Try.prog 34 #[.slice (some ⟨g, off, none⟩) l.length c] w fun e w' => ∃ rb, e = .returned (.tuple #[.pointer (some ⟨rb, 0, none⟩), .int .i64 0]) ∧ RX w' rb (loaded l) ∧ Below w.heap.size w w' := by
  have HO := hid (own_new w)
  have HX := hid (hB.alloc (.cells #[] 5))
  have HL := hid h0
  have HL2 := hid h2
  have HOk := hid hok
  have HP : Hid (l.length = (loaded l).pages * 512) := by
    show _ = _
    rw [show (loaded l).pages = l.length / 512 from (loadTo_rest l _ _).1]
    omega
  have hrm : Int.tmod (l.length : Int) 512 = 0 := by
    have : Int.tmod (l.length : Int) 512 = ((l.length % 512 : Nat) : Int) := rfl
    rw [this, h1]; rfl
  have b0 : ((l.length : Int) == 0) = false := by simp; exact List.length_pos_iff.1 h0
  have b2 : ¬ ((2097152 : Int) < (l.length : Int)) := by omega
  have HBl : Hid (Below w.heap.size w (w.alloc (.cells #[] 5))) := (Below.refl _ _).alloc (Nat.le_refl _) _
  clear hB h1 h0 h2 hok
  go_enter Try.func34, Try.ntmps34
  go_wp2_with (first
    | (at_builtin; go_loud (refine appBlk w.heap.size _ _ _ [] l rfl rfl rfl _ _ _ _ rfl ?hn ?hO ?hX ?hm ?hl ?hb ?_; (case hn => rfl); (case hO => exact HO.out); (case hX => exact HX.out); (case hm => exact HL.out); (case hl => have := HL2.out; simp; omega); (case hb => simp); intro v' w' O' G' A'; have HG' := hid G'; have HS' := hid G'.size; have O2 : OwnB w' w.heap.size v' l := O'; obtain ⟨gq, cq, hv', _, hcq, _⟩ := own_is' O2 HL.out; subst hv'; have HY' := hid (own_bts O2); have HC' := hid hcq; clear O' O2 G' A' hcq; try go_frame))
    | fail)
  go_ret2
  refine ⟨_, rfl, ⟨l, gq, cq, rfl, HOk.out, HP.out, HC'.out, Blk.new _ _ _, HY'.out.alloc _⟩, ?_⟩
  exact (below_own HBl.out HG'.out (by simp) (fun k hk => (World.ownsRow.lt HO.out k hk).1)).alloc (by have := HS'.out; simp at this; omega) _
/-! ### The document's pager over it -/
set_option maxHeartbeats 1000000 in
theorem xdochas_any (qb : Nat) (n : Int) (k : Pk) (h : RX w rb r) (P : Rag w qb rb k) :
    Calls Try.prog 69 #[.pointer (some ⟨qb, 0, none⟩), .int .i64 n] w fun e w' => e = .returned (.bool (r.rangeErr n)) ∧ w' = w := by
  have C := hid h.pages
  obtain ⟨p0, p1, p2, p3, pf⟩ := P.cells
  clear h P
  unfold Dk.rangeErr
  by_cases h1 : 2 ≤ n
  · by_cases h2 : n < (r.pages : Int)
    · rw [show decide (2 ≤ n ∧ n < (r.pages : Int)) = true by simp [h1, h2]]
      go_enter Try.func69, Try.ntmps69
      go_wp2_with (first
        | (go_at_call 45; go_loud (with_reducible refine C.out.mono ?_); rintro e w3 ⟨rfl, hw⟩; subst w3)
        | fail)
      go_ret
      exact ⟨rfl, rfl⟩
    · rw [show decide (2 ≤ n ∧ n < (r.pages : Int)) = false by simp [h1, h2]]
      go_enter Try.func69, Try.ntmps69
      go_wp2_with (first
        | (go_at_call 45; go_loud (with_reducible refine C.out.mono ?_); rintro e w3 ⟨rfl, hw⟩; subst w3)
        | fail)
      go_ret
      refine ⟨?_, rfl⟩
      show Ending.returned (.bool (decide (n < (r.pages : Int)))) = _
      rw [show decide (n < (r.pages : Int)) = false by simp [h2]]
  · rw [show decide (2 ≤ n ∧ n < (r.pages : Int)) = false by simp [h1]]
    go_enter Try.func69, Try.ntmps69
    go_wp2_with (first
      | (go_at_call 45; go_loud (with_reducible refine C.out.mono ?_); rintro e w3 ⟨rfl, hw⟩; subst w3)
      | fail)
    go_ret
    exact ⟨rfl, rfl⟩
set_option maxHeartbeats 1000000 in
theorem xropen_few (h : RX w rb r) (hp : r.pages < 3) :
    Calls Try.prog 35 #[.pointer (some ⟨rb, 0, none⟩)] w fun e w' => e = .returned (.tuple #[.pointer none, .int .i64 2]) ∧ w' = w := by
  have C := hid h.pages
  have hp' : (r.pages : Int) < 3 := by omega
  clear h hp
  go_enter Try.func35, Try.ntmps35
  go_wp2_with (first
    | (go_at_call 45; go_loud (with_reducible refine C.out.mono ?_); rintro e w3 ⟨rfl, hw⟩; subst w3)
    | fail)
  go_ret2
  exact ⟨rfl, rfl⟩
set_option maxHeartbeats 1000000 in
theorem xropen_down (h : RX w rb r) (hp : ¬ r.pages < 3) (hd : r.down = true) :
    Calls Try.prog 35 #[.pointer (some ⟨rb, 0, none⟩)] w fun e w' => e = .returned (.tuple #[.pointer none, .int .i64 9]) ∧ w' = w := by
  have C := hid h.pages
  have hr : ∀ n, r.reach n = 9 := fun n => by unfold Dk.reach; rw [hd]; rfl
  have C2 := h.readBad 0 (by rw [hr]; decide)
  rw [hr] at C2
  have HC2 := hid C2
  have hp' : ¬ (r.pages : Int) < 3 := by omega
  clear h hp C2 hr
  go_enter Try.func35, Try.ntmps35
  go_wp2_with (first
    | (go_at_call 45; go_loud (with_reducible refine C.out.mono ?_); rintro e w3 ⟨rfl, hw⟩; subst w3)
    | (go_at_call 67; go_loud (with_reducible refine HC2.out.mono ?_); rintro e w3 ⟨rfl, hw⟩; subst w3)
    | fail)
  go_ret2
  exact ⟨rfl, rfl⟩
set_option maxHeartbeats 8000000 in
theorem xropen_ok (h : RX w rb r) (hp : ¬ r.pages < 3) (hd : r.down = false) (hm : r.pend.length < 1000000) :
    Calls Try.prog 35 #[.pointer (some ⟨rb, 0, none⟩)] w (ropEnd w rb r.newestHead) := by
  have hpg := h.okk.pages
  have hr : ∀ k : Nat, k < 2 → r.reach (k : Int) = 0 := fun k hk => by unfold Dk.reach; rw [hd, if_neg (by decide), if_neg (by omega)]
  have CPg := hid (fun (w5 : World) (h5 : RX w5 rb r) => h5.pages)
  have CR0 : Hid (∀ (w5 : World), RX w5 rb r → Calls Try.prog 67 #[.pointer (some ⟨rb, 0, none⟩), .int .i64 0] w5 fun e w' => ∃ g c, e = .returned (.tuple #[.slice (some ⟨g, 0, none⟩) 512 c, .int .i64 0]) ∧ Byts w' (some ⟨g, 0, none⟩) (r.has 0) ∧ 512 ≤ c ∧ Below w5.heap.size w5 w') := fun w5 h5 => h5.read 0 (hr 0 (by decide)) hm
  have CR1 : Hid (∀ (w5 : World), RX w5 rb r → Calls Try.prog 67 #[.pointer (some ⟨rb, 0, none⟩), .int .i64 1] w5 fun e w' => ∃ g c, e = .returned (.tuple #[.slice (some ⟨g, 0, none⟩) 512 c, .int .i64 0]) ∧ Byts w' (some ⟨g, 0, none⟩) (r.has 1) ∧ 512 ≤ c ∧ Below w5.heap.size w5 w') := fun w5 h5 => h5.read 1 (hr 1 (by decide)) hm
  have CH0 : Hid (∀ (w5 : World) (g c : Nat), Byts w5 (some ⟨g, 0, none⟩) (r.has 0) → 512 ≤ c → Calls Try.prog 68 #[.slice (some ⟨g, 0, none⟩) 512 c, .int .i64 0, .int .i64 (r.pages : Int)] w5 fun e w' => (∃ x y : Int, e = .returned (.tuple #[.int .i64 x, .int .i64 y, .bool (readHead (r.has 0) 0 r.pages).isSome]) ∧ ∀ z, readHead (r.has 0) 0 r.pages = some z → x = (z.2 : Int) ∧ y = (z.1 : Int)) ∧ Below w5.heap.size w5 w') := fun w5 g c y hc => by
    refine (dochead_any g c (r.has 0) 0 r.pages w5 (h.okk.has _) hc (by omega) hpg (by decide) y).mono ?_
    rintro e w' ⟨⟨v, rfl, x, y, rfl, f⟩, B⟩
    exact ⟨⟨x, y, rfl, f⟩, B⟩
  have CH1 : Hid (∀ (w5 : World) (g c : Nat), Byts w5 (some ⟨g, 0, none⟩) (r.has 1) → 512 ≤ c → Calls Try.prog 68 #[.slice (some ⟨g, 0, none⟩) 512 c, .int .i64 1, .int .i64 (r.pages : Int)] w5 fun e w' => (∃ x y : Int, e = .returned (.tuple #[.int .i64 x, .int .i64 y, .bool (readHead (r.has 1) 1 r.pages).isSome]) ∧ ∀ z, readHead (r.has 1) 1 r.pages = some z → x = (z.2 : Int) ∧ y = (z.1 : Int)) ∧ Below w5.heap.size w5 w') := fun w5 g c y hc => by
    refine (dochead_any g c (r.has 1) 1 r.pages w5 (h.okk.has _) hc (by omega) hpg (by decide) y).mono ?_
    rintro e w' ⟨⟨v, rfl, x, y, rfl, f⟩, B⟩
    exact ⟨⟨x, y, rfl, f⟩, B⟩
  have HH := hid h
  have hp' : ¬ (r.pages : Int) < 3 := by omega
  have HNw : Hid (r.newestHead = newer (readHead (r.has 0) 0 r.pages) (readHead (r.has 1) 1 r.pages)) := rfl
  clear h hp hr hm hd
  generalize readHead (r.has 0) 0 r.pages = o0 at *
  generalize readHead (r.has 1) 1 r.pages = o1 at *
  generalize r.newestHead = o at *
  generalize r.has 0 = b0 at *
  generalize r.has 1 = b1 at *
  cases o0 with
  | none =>
    cases o1 with
    | none =>
      have HNw : Hid (o = none) := HNw
      simp only [Option.isSome] at CH0 CH1
      go_enter Try.func35, Try.ntmps35
      go_wp2_with (first
        | (go_at_call 45; first
            | (with_reducible refine (CPg.out _ HR5.out).mono ?_; rintro e w3 ⟨rfl, hw⟩; subst w3)
            | (with_reducible refine (CPg.out _ HR4.out).mono ?_; rintro e w3 ⟨rfl, hw⟩; subst w3)
            | (with_reducible refine (CPg.out _ HH.out).mono ?_; rintro e w3 ⟨rfl, hw⟩; subst w3))
        | (go_at_call 67; first
            | (with_reducible refine (CR1.out _ HR3.out).mono ?_; rintro e w4 ⟨g4, c4, rfl, Y4, L4, B4⟩; have HY4 := hid Y4; have HL4 := hid L4; have HZ4 := hid (HY3.out.below B4); have HR4 := hid (HR3.out.grow B4); have HB4 := hid (HB3.out.trans (B4.mono HB3.out.size)); clear Y4 L4 B4)
            | (with_reducible refine (CR0.out _ HH.out).mono ?_; rintro e w3 ⟨g3, c3, rfl, Y3, L3, B3⟩; have HY3 := hid Y3; have HL3 := hid L3; have HR3 := hid (HH.out.grow B3); have HB3 := hid B3; clear Y3 L3 B3))
        | (go_at_call 68; first
            | (with_reducible refine (CH1.out _ g4 c4 HY5.out HL4.out).mono ?_; rintro e w6 ⟨⟨x6, y6, rfl, F6⟩, B6⟩; have HR6 := hid (HR5.out.grow B6); have HB6 := hid (HB5.out.trans (B6.mono HB5.out.size)); clear F6 B6)
            | (with_reducible refine (CH0.out _ g3 c3 HZ4.out HL3.out).mono ?_; rintro e w5 ⟨⟨x5, y5, rfl, F5⟩, B5⟩; have HY5 := hid (HY4.out.below B5); have HR5 := hid (HR4.out.grow B5); have HB5 := hid (HB4.out.trans (B5.mono HB4.out.size)); clear F5 B5))
        | fail)
      go_ret2
      unfold ropEnd
      rw [HNw.out]
      exact ⟨HB6.out, rfl⟩
    | some z1 =>
      have HNw : Hid (o = some z1) := HNw
      simp only [Option.isSome] at CH0 CH1
      go_enter Try.func35, Try.ntmps35
      go_wp2_with (first
        | (go_at_call 45; first
            | (with_reducible refine (CPg.out _ HR5.out).mono ?_; rintro e w3 ⟨rfl, hw⟩; subst w3)
            | (with_reducible refine (CPg.out _ HR4.out).mono ?_; rintro e w3 ⟨rfl, hw⟩; subst w3)
            | (with_reducible refine (CPg.out _ HH.out).mono ?_; rintro e w3 ⟨rfl, hw⟩; subst w3))
        | (go_at_call 67; first
            | (with_reducible refine (CR1.out _ HR3.out).mono ?_; rintro e w4 ⟨g4, c4, rfl, Y4, L4, B4⟩; have HY4 := hid Y4; have HL4 := hid L4; have HZ4 := hid (HY3.out.below B4); have HR4 := hid (HR3.out.grow B4); have HB4 := hid (HB3.out.trans (B4.mono HB3.out.size)); clear Y4 L4 B4)
            | (with_reducible refine (CR0.out _ HH.out).mono ?_; rintro e w3 ⟨g3, c3, rfl, Y3, L3, B3⟩; have HY3 := hid Y3; have HL3 := hid L3; have HR3 := hid (HH.out.grow B3); have HB3 := hid B3; clear Y3 L3 B3))
        | (go_at_call 68; first
            | (with_reducible refine (CH1.out _ g4 c4 HY5.out HL4.out).mono ?_; rintro e w6 ⟨⟨x6, y6, rfl, F6⟩, B6⟩; obtain ⟨rfl, rfl⟩ := F6 _ rfl; have HR6 := hid (HR5.out.grow B6); have HB6 := hid (HB5.out.trans (B6.mono HB5.out.size)); clear F6 B6)
            | (with_reducible refine (CH0.out _ g3 c3 HZ4.out HL3.out).mono ?_; rintro e w5 ⟨⟨x5, y5, rfl, F5⟩, B5⟩; have HY5 := hid (HY4.out.below B5); have HR5 := hid (HR4.out.grow B5); have HB5 := hid (HB4.out.trans (B5.mono HB4.out.size)); clear F5 B5))
        | fail)
      have HN := hid (Blk.new w6 (rgcells rb ⟨z1.1, z1.2, false⟩) 54)
      go_ret2
      unfold ropEnd
      rw [HNw.out]
      exact ⟨HB6.out.alloc HB6.out.size _, _, HB6.out.size, rfl, HN.out⟩
  | some z0 =>
    cases o1 with
    | none =>
      have HNw : Hid (o = some z0) := HNw
      simp only [Option.isSome] at CH0 CH1
      go_enter Try.func35, Try.ntmps35
      go_wp2_with (first
        | (go_at_call 45; first
            | (with_reducible refine (CPg.out _ HR5.out).mono ?_; rintro e w3 ⟨rfl, hw⟩; subst w3)
            | (with_reducible refine (CPg.out _ HR4.out).mono ?_; rintro e w3 ⟨rfl, hw⟩; subst w3)
            | (with_reducible refine (CPg.out _ HH.out).mono ?_; rintro e w3 ⟨rfl, hw⟩; subst w3))
        | (go_at_call 67; first
            | (with_reducible refine (CR1.out _ HR3.out).mono ?_; rintro e w4 ⟨g4, c4, rfl, Y4, L4, B4⟩; have HY4 := hid Y4; have HL4 := hid L4; have HZ4 := hid (HY3.out.below B4); have HR4 := hid (HR3.out.grow B4); have HB4 := hid (HB3.out.trans (B4.mono HB3.out.size)); clear Y4 L4 B4)
            | (with_reducible refine (CR0.out _ HH.out).mono ?_; rintro e w3 ⟨g3, c3, rfl, Y3, L3, B3⟩; have HY3 := hid Y3; have HL3 := hid L3; have HR3 := hid (HH.out.grow B3); have HB3 := hid B3; clear Y3 L3 B3))
        | (go_at_call 68; first
            | (with_reducible refine (CH1.out _ g4 c4 HY5.out HL4.out).mono ?_; rintro e w6 ⟨⟨x6, y6, rfl, F6⟩, B6⟩; have HR6 := hid (HR5.out.grow B6); have HB6 := hid (HB5.out.trans (B6.mono HB5.out.size)); clear F6 B6)
            | (with_reducible refine (CH0.out _ g3 c3 HZ4.out HL3.out).mono ?_; rintro e w5 ⟨⟨x5, y5, rfl, F5⟩, B5⟩; obtain ⟨rfl, rfl⟩ := F5 _ rfl; have HY5 := hid (HY4.out.below B5); have HR5 := hid (HR4.out.grow B5); have HB5 := hid (HB4.out.trans (B5.mono HB4.out.size)); clear F5 B5))
        | fail)
      have HN := hid (Blk.new w6 (rgcells rb ⟨z0.1, z0.2, false⟩) 54)
      go_ret2
      unfold ropEnd
      rw [HNw.out]
      exact ⟨HB6.out.alloc HB6.out.size _, _, HB6.out.size, rfl, HN.out⟩
    | some z1 =>
      simp only [Option.isSome] at CH0 CH1
      by_cases hlt : z0.1 < z1.1
      · have HNw : Hid (o = some z1) := by have := HNw.out; simp only [newer] at this; rw [if_pos hlt] at this; exact this
        have hld : decide ((z0.1 : Int) < (z1.1 : Int)) = true := by simp; omega
        go_enter Try.func35, Try.ntmps35
        go_wp2_with (first
          | (go_at_call 45; first
              | (with_reducible refine (CPg.out _ HR5.out).mono ?_; rintro e w3 ⟨rfl, hw⟩; subst w3)
              | (with_reducible refine (CPg.out _ HR4.out).mono ?_; rintro e w3 ⟨rfl, hw⟩; subst w3)
              | (with_reducible refine (CPg.out _ HH.out).mono ?_; rintro e w3 ⟨rfl, hw⟩; subst w3))
          | (go_at_call 67; first
              | (with_reducible refine (CR1.out _ HR3.out).mono ?_; rintro e w4 ⟨g4, c4, rfl, Y4, L4, B4⟩; have HY4 := hid Y4; have HL4 := hid L4; have HZ4 := hid (HY3.out.below B4); have HR4 := hid (HR3.out.grow B4); have HB4 := hid (HB3.out.trans (B4.mono HB3.out.size)); clear Y4 L4 B4)
              | (with_reducible refine (CR0.out _ HH.out).mono ?_; rintro e w3 ⟨g3, c3, rfl, Y3, L3, B3⟩; have HY3 := hid Y3; have HL3 := hid L3; have HR3 := hid (HH.out.grow B3); have HB3 := hid B3; clear Y3 L3 B3))
          | (go_at_call 68; first
              | (with_reducible refine (CH1.out _ g4 c4 HY5.out HL4.out).mono ?_; rintro e w6 ⟨⟨x6, y6, rfl, F6⟩, B6⟩; obtain ⟨rfl, rfl⟩ := F6 _ rfl; have HR6 := hid (HR5.out.grow B6); have HB6 := hid (HB5.out.trans (B6.mono HB5.out.size)); clear F6 B6)
              | (with_reducible refine (CH0.out _ g3 c3 HZ4.out HL3.out).mono ?_; rintro e w5 ⟨⟨x5, y5, rfl, F5⟩, B5⟩; obtain ⟨rfl, rfl⟩ := F5 _ rfl; have HY5 := hid (HY4.out.below B5); have HR5 := hid (HR4.out.grow B5); have HB5 := hid (HB4.out.trans (B5.mono HB4.out.size)); clear F5 B5))
          | fail)
        have HN := hid (Blk.new w6 (rgcells rb ⟨z1.1, z1.2, false⟩) 54)
        go_ret2
        unfold ropEnd
        rw [HNw.out]
        exact ⟨HB6.out.alloc HB6.out.size _, _, HB6.out.size, rfl, HN.out⟩
      · have HNw : Hid (o = some z0) := by have := HNw.out; simp only [newer] at this; rw [if_neg hlt] at this; exact this
        have hld : decide ((z0.1 : Int) < (z1.1 : Int)) = false := by simp; omega
        have hlp : ¬ ((z0.1 : Int) < (z1.1 : Int)) := by omega
        go_enter Try.func35, Try.ntmps35
        go_wp2_with (first
          | (go_at_call 45; first
              | (with_reducible refine (CPg.out _ HR5.out).mono ?_; rintro e w3 ⟨rfl, hw⟩; subst w3)
              | (with_reducible refine (CPg.out _ HR4.out).mono ?_; rintro e w3 ⟨rfl, hw⟩; subst w3)
              | (with_reducible refine (CPg.out _ HH.out).mono ?_; rintro e w3 ⟨rfl, hw⟩; subst w3))
          | (go_at_call 67; first
              | (with_reducible refine (CR1.out _ HR3.out).mono ?_; rintro e w4 ⟨g4, c4, rfl, Y4, L4, B4⟩; have HY4 := hid Y4; have HL4 := hid L4; have HZ4 := hid (HY3.out.below B4); have HR4 := hid (HR3.out.grow B4); have HB4 := hid (HB3.out.trans (B4.mono HB3.out.size)); clear Y4 L4 B4)
              | (with_reducible refine (CR0.out _ HH.out).mono ?_; rintro e w3 ⟨g3, c3, rfl, Y3, L3, B3⟩; have HY3 := hid Y3; have HL3 := hid L3; have HR3 := hid (HH.out.grow B3); have HB3 := hid B3; clear Y3 L3 B3))
          | (go_at_call 68; first
              | (with_reducible refine (CH1.out _ g4 c4 HY5.out HL4.out).mono ?_; rintro e w6 ⟨⟨x6, y6, rfl, F6⟩, B6⟩; obtain ⟨rfl, rfl⟩ := F6 _ rfl; have HR6 := hid (HR5.out.grow B6); have HB6 := hid (HB5.out.trans (B6.mono HB5.out.size)); clear F6 B6)
              | (with_reducible refine (CH0.out _ g3 c3 HZ4.out HL3.out).mono ?_; rintro e w5 ⟨⟨x5, y5, rfl, F5⟩, B5⟩; obtain ⟨rfl, rfl⟩ := F5 _ rfl; have HY5 := hid (HY4.out.below B5); have HR5 := hid (HR4.out.grow B5); have HB5 := hid (HB4.out.trans (B5.mono HB4.out.size)); clear F5 B5))
          | fail)
        have HN := hid (Blk.new w6 (rgcells rb ⟨z0.1, z0.2, false⟩) 54)
        go_ret2
        unfold ropEnd
        rw [HNw.out]
        exact ⟨HB6.out.alloc HB6.out.size _, _, HB6.out.size, rfl, HN.out⟩
theorem RX.open_ (h : RX w rb r) (hm : r.pend.length < 1000000) :
    Calls Try.prog 35 #[.pointer (some ⟨rb, 0, none⟩)] w fun e w' => Below w.heap.size w w' ∧ (r.openErr ≠ 0 → e = .returned (.tuple #[.pointer none, .int .i64 r.openErr])) ∧ (r.openErr = 0 → ∃ qb x, r.newestHead = some x ∧ w.heap.size ≤ qb ∧ e = .returned (.tuple #[.pointer (some ⟨qb, 0, none⟩), .int .i64 0]) ∧ Rag w' qb rb ⟨x.1, x.2, false⟩) := by
  unfold Dk.openErr
  by_cases hp : r.pages < 3
  · rw [if_pos hp]
    refine (xropen_few h hp).mono ?_
    rintro e w' ⟨he, rfl⟩
    exact ⟨Below.refl _ _, fun _ => he, fun q => by cases q⟩
  · rw [if_neg hp]
    cases hd : r.down
    · rw [if_neg (by decide)]
      refine (xropen_ok h hp hd hm).mono ?_
      rintro e w' ⟨B, he⟩
      cases hN : r.newestHead with
      | none =>
        rw [hN] at he
        rw [if_pos rfl]
        exact ⟨B, fun _ => he, fun q => by cases q⟩
      | some x =>
        rw [hN] at he
        rw [if_neg (by simp)]
        obtain ⟨pb, h1, h2, h3⟩ := he
        exact ⟨B, fun q => absurd rfl q, fun _ => ⟨pb, x, rfl, h1, h2, h3⟩⟩
    · rw [if_pos rfl]
      refine (xropen_down h hp hd).mono ?_
      rintro e w' ⟨he, rfl⟩
      exact ⟨Below.refl _ _, fun _ => he, fun q => by cases q⟩
set_option maxHeartbeats 1000000 in
theorem xdread_range (qb : Nat) (n : Int) (k : Pk) (h : RX w rb r) (P : Rag w qb rb k) (hr : r.rangeErr n = false) :
    Calls Try.prog 36 #[.pointer (some ⟨qb, 0, none⟩), .int .i64 n] w fun e w' => e = .returned (.tuple #[.slice none 0 0, .int .i64 2]) ∧ w' = w := by
  have C1 := hid (xdochas_any qb n k h P)
  rw [hr] at C1
  clear h P
  go_enter Try.func36, Try.ntmps36
  go_wp2_with (first
    | (go_at_call 69; go_loud (with_reducible refine C1.out.mono ?_); rintro e w3 ⟨rfl, hw⟩; subst w3)
    | fail)
  go_ret2
  exact ⟨rfl, rfl⟩
set_option maxHeartbeats 1000000 in
theorem xdread_down (qb : Nat) (n : Int) (k : Pk) (h : RX w rb r) (P : Rag w qb rb k) (hr : r.rangeErr n = true) (hd : r.down = true) :
    Calls Try.prog 36 #[.pointer (some ⟨qb, 0, none⟩), .int .i64 n] w fun e w' => e = .returned (.tuple #[.slice none 0 0, .int .i64 9]) ∧ w' = w := by
  have C1 := hid (xdochas_any qb n k h P)
  rw [hr] at C1
  have e9 : r.reach n = 9 := by rw [reach_in5 hr, hd]; rfl
  have C3 := h.readBad n (by rw [e9]; decide)
  rw [e9] at C3
  have HC3 := hid C3
  obtain ⟨p0, p1, p2, p3, pf⟩ := P.cells
  clear h P C3 e9
  go_enter Try.func36, Try.ntmps36
  go_wp2_with (first
    | (go_at_call 69; go_loud (with_reducible refine C1.out.mono ?_); rintro e w3 ⟨rfl, hw⟩; subst w3)
    | (go_at_call 67; go_loud (with_reducible refine HC3.out.mono ?_); rintro e w3 ⟨rfl, hw⟩; subst w3)
    | fail)
  go_ret2
  exact ⟨rfl, rfl⟩
set_option maxHeartbeats 2000000 in
theorem xdread_up (qb : Nat) (n : Int) (k : Pk) (h : RX w rb r) (P : Rag w qb rb k) (hr : r.rangeErr n = true) (hd : r.down = false) (hm : r.pend.length < 1000000) :
    Calls Try.prog 36 #[.pointer (some ⟨qb, 0, none⟩), .int .i64 n] w fun e w' => Below w.heap.size w w' ∧ (right (r.has n) = false → e = .returned (.tuple #[.slice none 0 0, .int .i64 10])) ∧ (right (r.has n) = true → ∃ g c, e = .returned (.tuple #[.slice (some ⟨g, 0, none⟩) 508 c, .int .i64 0]) ∧ Byts w' (some ⟨g, 0, none⟩) ((r.has n).take 508)) := by
  have C1 := hid (xdochas_any qb n k h P)
  rw [hr] at C1
  have e0 : r.reach n = 0 := by rw [reach_in5 hr, hd]; rfl
  have C3 := hid (h.read n e0 hm)
  have hln := h.okk.has n
  have CP : Hid (∀ (w5 : World) (g c : Nat), Byts w5 (some ⟨g, 0, none⟩) (r.has n) → Calls Try.prog 31 #[.slice (some ⟨g, 0, none⟩) 508 c] w5 fun e w' => ∃ q cq, e = .returned (.slice (some ⟨q, 0, none⟩) 512 cq) ∧ (convert 22 9 (.slice (some ⟨q, 0, none⟩) 512 cq)).run Try.prog w' = .ok (.string ⟨(sealed ((r.has n).take 508)).toArray⟩) w' ∧ Below w5.heap.size w5 w') := fun w5 g c y => rpage_ex g c (r.has n) w5 hln y
  have HCV : Hid (∀ (w5 : World) (g c : Nat), Byts w5 (some ⟨g, 0, none⟩) (r.has n) → (convert 22 9 (.slice (some ⟨g, 0, none⟩) 512 c)).run Try.prog w5 = .ok (.string ⟨(r.has n).toArray⟩) w5) := fun w5 g c y => by
    have := conv_byts c y
    rwa [hln] at this
  have HRt : Hid (right (r.has n) = (sealed ((r.has n).take 508) == r.has n)) := rfl
  obtain ⟨p0, p1, p2, p3, pf⟩ := P.cells
  clear h P hln e0
  generalize r.has n = b at *
  generalize sealed (b.take 508) = X at *
  cases hR : right b
  · have hne : (b == X) = false := by
      have := HRt.out
      rw [hR] at this
      rw [beq_eq_false_iff_ne]
      intro e
      rw [e] at this
      simp at this
    go_enter Try.func36, Try.ntmps36
    go_wp2_with (first
      | (go_at_call 69; go_loud (with_reducible refine C1.out.mono ?_); rintro e w3 ⟨rfl, hw⟩; subst w3)
      | (go_at_call 67; go_loud (with_reducible refine C3.out.mono ?_); rintro e w3 ⟨g, c, rfl, Y3, L3, B3⟩; have HY3 := hid Y3; have HB3 := hid B3; have v3 := HCV.out w3.drew g c Y3.drew; have HC4 := hid (CP.out w3.drew g c Y3.drew); clear Y3 B3)
      | fail)
    have hc5 : (508 : Int) ≤ (c : Int) := by omega
    have hc8 : 508 ≤ c := by omega
    go_region_held_law (fun w' => (convert 22 9 (.slice (some ⟨g, 0, none⟩) 512 c)).run Try.prog w' = .ok (.string ⟨b.toArray⟩) w') (first | exact v3 | exact HV4.out)
      (first
        | (go_at_call 31; go_loud (with_reducible refine HC4.out.mono ?_); rintro e w4 ⟨q, cq, rfl, u4, B4⟩; have HB4 : Hid (Below w.heap.size w w4) := HB3.out.trans (((Below.refl _ _).drew.trans B4).mono HB3.out.size); have HV4 := hid (HCV.out w4 g c ((HY3.out.drew).below B4)); clear B4)
        | fail)
    all_goals go_wp2
    all_goals go_ret2
    exact ⟨HB4.out, fun _ => rfl, (fun q => by cases q)⟩
  · have hne : (b == X) = true := by
      have := HRt.out
      rw [hR] at this
      rw [beq_iff_eq]
      exact (beq_iff_eq.1 this.symm).symm
    go_enter Try.func36, Try.ntmps36
    go_wp2_with (first
      | (go_at_call 69; go_loud (with_reducible refine C1.out.mono ?_); rintro e w3 ⟨rfl, hw⟩; subst w3)
      | (go_at_call 67; go_loud (with_reducible refine C3.out.mono ?_); rintro e w3 ⟨g, c, rfl, Y3, L3, B3⟩; have HY3 := hid Y3; have HB3 := hid B3; have v3 := HCV.out w3.drew g c Y3.drew; have HC4 := hid (CP.out w3.drew g c Y3.drew); clear Y3 B3)
      | fail)
    have hc5 : (508 : Int) ≤ (c : Int) := by omega
    have hc8 : 508 ≤ c := by omega
    go_region_held_law (fun w' => (convert 22 9 (.slice (some ⟨g, 0, none⟩) 512 c)).run Try.prog w' = .ok (.string ⟨b.toArray⟩) w') (first | exact v3 | exact HV4.out)
      (first
        | (go_at_call 31; go_loud (with_reducible refine HC4.out.mono ?_); rintro e w4 ⟨q, cq, rfl, u4, B4⟩; have HB4 : Hid (Below w.heap.size w w4) := HB3.out.trans (((Below.refl _ _).drew.trans B4).mono HB3.out.size); have HV4 := hid (HCV.out w4 g c ((HY3.out.drew).below B4)); have HY4 := hid ((HY3.out.drew).below B4); clear B4)
        | fail)
    all_goals go_wp2
    all_goals go_ret2
    exact ⟨HB4.out, (fun q => by cases q), fun _ => ⟨_, _, rfl, HY4.out.tk5 508⟩⟩
theorem RX.pread (qb : Nat) (n : Int) (k : Pk) (h : RX w rb r) (P : Rag w qb rb k) (hm : r.pend.length < 1000000) :
    Calls Try.prog 36 #[.pointer (some ⟨qb, 0, none⟩), .int .i64 n] w fun e w' => Below w.heap.size w w' ∧ (r.rdErr n ≠ 0 → e = .returned (.tuple #[.slice none 0 0, .int .i64 (r.rdErr n)])) ∧ (r.rdErr n = 0 → ∃ g c, e = .returned (.tuple #[.slice (some ⟨g, 0, none⟩) 508 c, .int .i64 0]) ∧ Byts w' (some ⟨g, 0, none⟩) ((r.has n).take 508)) := by
  unfold Dk.rdErr
  cases hr : r.rangeErr n
  · rw [if_pos rfl]
    refine (xdread_range qb n k h P hr).mono ?_
    rintro e w' ⟨he, rfl⟩
    exact ⟨Below.refl _ _, fun _ => he, fun q => by cases q⟩
  · rw [if_neg (by decide)]
    cases hd : r.down
    · rw [if_neg (by decide)]
      refine (xdread_up qb n k h P hr hd hm).mono ?_
      rintro e w' ⟨B, h1, h2⟩
      cases hR : right (r.has n)
      · rw [if_pos rfl]
        exact ⟨B, fun _ => h1 hR, fun q => by cases q⟩
      · rw [if_neg (by decide)]
        exact ⟨B, fun q => absurd rfl q, fun _ => h2 hR⟩
    · rw [if_pos rfl]
      refine (xdread_down qb n k h P hr hd).mono ?_
      rintro e w' ⟨he, rfl⟩
      exact ⟨Below.refl _ _, fun _ => he, fun q => by cases q⟩
end Go.Proofs.Ytnecigbncggogaa
