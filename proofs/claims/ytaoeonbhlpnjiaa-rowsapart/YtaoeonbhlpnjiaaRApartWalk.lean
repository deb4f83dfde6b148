/- The law RowsApart returns true and writes nothing that was there. Conditions: the rows lie within the reach. -/
import Derived.Test.YtaoeonbhlpnjiaaRowLaws
import Derived.Test.YtaoeonbhlpnjiaaRowSame
namespace Go.Proofs.Ytaoeonbhlpnjiaa
open Go.RowKit Go.Lib Go.Sort
set_option linter.unusedVariables false

/-- What Encode answers of a row that is written. -/
def encOk (xs : List Val) (w : World) (e : Ending) (w' : World) : Prop :=
  Below w.heap.size w w' ∧ ∃ p c, e = .returned (.tuple #[.slice p (encW xs).length c, .int .i64 0]) ∧ Byts w' p (encW xs) ∧ (encW xs).length ≤ c
def encBad (xs : List Val) (w : World) (e : Ending) (w' : World) : Prop := Below w.heap.size w w' ∧ ∃ v, e = .returned (.tuple #[v, .int .i64 (errE xs)])
theorem enc_ok {p : Option Addr} {xs : List Val} {c : Nat} {w : World} (r : Row w p xs) (hn : ∀ v ∈ xs, -9223372036854775808 ≤ v.n ∧ v.n ≤ 9223372036854775807) (hb : bulkR xs ≤ 110000) (he : errE xs = 0) :
    Calls Try.prog 10 #[.slice p xs.length c] w (encOk xs w) := (rencode_any p xs c w r hn (by omega)).mono fun e w' h => by
  obtain ⟨q1, q2, q3, q4⟩ := errE_ok he
  obtain ⟨B, v, h1, O⟩ := h.uni
  rw [q3] at O
  rw [he] at h1
  obtain ⟨p, c, hv, r, _, _⟩ := Byts.of_own O
  subst hv
  exact ⟨B, p, c, h1, r, own_cap O⟩
theorem enc_bad {p : Option Addr} {xs : List Val} {c : Nat} {w : World} (r : Row w p xs) (hn : ∀ v ∈ xs, -9223372036854775808 ≤ v.n ∧ v.n ≤ 9223372036854775807) (hb : bulkR xs ≤ 110000) :
    Calls Try.prog 10 #[.slice p xs.length c] w (encBad xs w) := (rencode_any p xs c w r hn (by omega)).mono fun e w' h => by
  obtain ⟨B, v, h1, O⟩ := h.uni
  exact ⟨B, v, h1⟩
theorem take_eq (a b : List UInt8) : (⟨a.toArray⟩ : ByteArray) = ⟨b.toArray⟩ ↔ a = b := by
  constructor
  · intro h
    have h2 := congrArg (fun s : ByteArray => s.data.toList) h
    simpa using h2
  · intro h
    rw [h]
theorem conv_part {w : World} {p : Option Addr} {c n : Nat} {r : List UInt8} (h : Byts w p r) (hle : n ≤ r.length) :
    (convert 24 9 (.slice p n c)).run Try.prog w = .ok (.string ⟨(r.take n).toArray⟩) w := by
  have h := conv_byts c (h.take n)
  have e : (r.take n).length = n := by rw [List.length_take]; omega
  rw [e] at h
  exact h

set_option maxRecDepth 20000 in
set_option maxHeartbeats 8000000 in
theorem rapart_walk (xs ys : List Val) (p1 p2 : Option Addr) (c1 c2 : Nat) (w : World) (hz1 : xs.length * 32 ≤ 140737488351232) (hz2 : ys.length * 32 ≤ 140737488351232) (rX : Row w p1 xs) (rY : Row w p2 ys)
    (hn : ∀ v ∈ xs, -9223372036854775808 ≤ v.n ∧ v.n ≤ 9223372036854775807) (hm : ∀ v ∈ ys, -9223372036854775808 ≤ v.n ∧ v.n ≤ 9223372036854775807) :
    Calls Try.prog 6 #[.slice p1 xs.length c1, .slice p2 ys.length c2] w fun e w' => e = .returned (.bool true) ∧ Below w.heap.size w w' := by
  have HX : Hid (Row w p1 xs) := rX
  have HY : Hid (Row w p2 ys) := rY
  have WK := fun w => worksW_any w
  have SX : Hid (∀ w, Row w p1 xs → Calls Try.prog 9 #[.slice p1 xs.length c1] w fun e w' => e = .returned (.bool (shortW xs)) ∧ w' = w) := fun w r => short_any p1 xs c1 w r hz1
  have SY : Hid (∀ w, Row w p2 ys → Calls Try.prog 9 #[.slice p2 ys.length c2] w fun e w' => e = .returned (.bool (shortW ys)) ∧ w' = w) := fun w r => short_any p2 ys c2 w r hz2
  clear rX rY
  cases h1 : shortW xs
  · simp only [h1] at SX
    clear hn hm
    go_enter Try.func6, Try.ntmps6
    go_wp2_with (first
      | (go_at_call 17; with_reducible refine (WK _).mono ?_; rintro e w1 ⟨rfl, b1⟩; have B1 := hid b1; clear b1; have SX' := SX.out w1 (HX.out.below B1.out); have SY' := SY.out w1 (HY.out.below B1.out))
      | (go_at_call 9; (first | (with_reducible refine SX'.mono ?_; rintro e w2 ⟨rfl, hw⟩; subst hw; clear SX') | (with_reducible refine SY'.mono ?_; rintro e w2 ⟨rfl, hw⟩; subst hw; clear SY')))
      | fail)
    go_ret
    exact ⟨rfl, B1.out⟩
  simp only [h1] at SX
  cases h2 : shortW ys
  · simp only [h2] at SY
    clear hn hm
    go_enter Try.func6, Try.ntmps6
    go_wp2_with (first
      | (go_at_call 17; with_reducible refine (WK _).mono ?_; rintro e w1 ⟨rfl, b1⟩; have B1 := hid b1; clear b1; have SX' := SX.out w1 (HX.out.below B1.out); have SY' := SY.out w1 (HY.out.below B1.out))
      | (go_at_call 9; (first | (with_reducible refine SX'.mono ?_; rintro e w2 ⟨rfl, hw⟩; subst hw; clear SX') | (with_reducible refine SY'.mono ?_; rintro e w2 ⟨rfl, hw⟩; subst hw; clear SY')))
      | fail)
    go_ret
    exact ⟨rfl, B1.out⟩
  simp only [h2] at SY
  have hb1 := shortW_bulk h1
  have hb2 := shortW_bulk h2
  have hl1 := bulkR_len xs
  have hl2 := bulkR_len ys
  clear h1 h2
  have EYB : Hid (∀ w, Row w p2 ys → Calls Try.prog 10 #[.slice p2 ys.length c2] w (encBad ys w)) := fun w r => enc_bad r hm hb2
  by_cases e1 : errE xs = 0
  case neg =>
    have EX : Hid (∀ w, Row w p1 xs → Calls Try.prog 10 #[.slice p1 xs.length c1] w (encBad xs w)) := fun w r => enc_bad r hn hb1
    have EY := EYB
    unfold encBad at EX EY
    have d1 : (errE xs != 0) = true := bne_iff_ne.2 e1
    generalize errE xs = er at *
    generalize errE ys = es at *
    clear hn hm e1 EYB
    go_enter Try.func6, Try.ntmps6
    go_wp2_with (first
      | (go_at_call 17; with_reducible refine (WK _).mono ?_; rintro e w1 ⟨rfl, b1⟩; have B1 := hid b1; clear b1; have SX' := SX.out w1 (HX.out.below B1.out); have SY' := SY.out w1 (HY.out.below B1.out))
      | (go_at_call 9; (first | (with_reducible refine SX'.mono ?_; rintro e w2 ⟨rfl, hw⟩; subst hw; clear SX') | (with_reducible refine SY'.mono ?_; rintro e w2 ⟨rfl, hw⟩; subst hw; clear SY'; have EX' := EX.out _ (HX.out.below B1.out))))
      | (go_at_call 10; (first | (with_reducible refine EX'.mono ?_; rintro e w3 ⟨b3, v3, he⟩; subst he; have B3 := hid (B1.out.trans (b3.mono B1.out.size)); clear b3 EX'; have EY' := EY.out w3 (HY.out.below B3.out)) | (with_reducible refine EY'.mono ?_; rintro e w4 ⟨b4, v4, he⟩; subst he; have B4 := hid (B3.out.trans (b4.mono B3.out.size)); clear b4 EY')))
      | fail)
    go_ret
    exact ⟨rfl, B4.out⟩
  case pos =>
    have EX : Hid (∀ w, Row w p1 xs → Calls Try.prog 10 #[.slice p1 xs.length c1] w (encOk xs w)) := fun w r => enc_ok r hn hb1 e1
    unfold encOk at EX
    by_cases e2 : errE ys = 0
    case neg =>
      have EY := EYB
      unfold encBad at EY
      have d1 : (errE ys != 0) = true := bne_iff_ne.2 e2
      generalize errE ys = es at *
      generalize encW xs = ex at *
      clear hn hm e1 e2 EYB
      go_enter Try.func6, Try.ntmps6
      go_wp2_with (first
        | (go_at_call 17; with_reducible refine (WK _).mono ?_; rintro e w1 ⟨rfl, b1⟩; have B1 := hid b1; clear b1; have SX' := SX.out w1 (HX.out.below B1.out); have SY' := SY.out w1 (HY.out.below B1.out))
        | (go_at_call 9; (first | (with_reducible refine SX'.mono ?_; rintro e w2 ⟨rfl, hw⟩; subst hw; clear SX') | (with_reducible refine SY'.mono ?_; rintro e w2 ⟨rfl, hw⟩; subst hw; clear SY'; have EX' := EX.out _ (HX.out.below B1.out))))
        | (go_at_call 10; (first | (with_reducible refine EX'.mono ?_; rintro e w3 ⟨b3, p3, c3, he, r3, k3⟩; subst he; have B3 := hid (B1.out.trans (b3.mono B1.out.size)); have R3 := hid r3; clear b3 EX' r3; have EY' := EY.out w3 (HY.out.below B3.out)) | (with_reducible refine EY'.mono ?_; rintro e w4 ⟨b4, v4, he⟩; subst he; have B4 := hid (B3.out.trans (b4.mono B3.out.size)); clear b4 EY')))
        | fail)
      go_ret
      exact ⟨rfl, B4.out⟩
    case pos =>
      have EY : Hid (∀ w, Row w p2 ys → Calls Try.prog 10 #[.slice p2 ys.length c2] w (encOk ys w)) := fun w r => enc_ok r hm hb2 e2
      unfold encOk at EY
      obtain ⟨q1, q2, _, _⟩ := errE_ok e1
      obtain ⟨s1, s2, _, _⟩ := errE_ok e2
      have HK : Hid (∀ n, n = min (encW xs).length (encW ys).length → ((encW xs).take n = (encW ys).take n ↔ xs = ys)) := fun n h => apart (inV_of q1 hn (by omega)) (inV_of s1 hm (by omega)) (by omega) (by omega) h
      have SR : Hid (∀ b : Bool, (b = true ↔ xs = ys) → ∀ w, Row w p1 xs → Row w p2 ys → Calls Try.prog 14 #[.slice p1 xs.length c1, .slice p2 ys.length c2] w fun e w' => e = .returned (.bool b) ∧ Below w.heap.size w w') := fun b hb w r1 r2 => by
        by_cases h : xs = ys
        · obtain rfl : b = true := hb.2 h
          subst h
          exact sameRow_refl xs p1 p2 c1 c2 w (by unfold maxLen; omega) r1 r2
        · obtain rfl : b = false := by
            cases b
            · rfl
            · exact absurd (hb.1 rfl) h
          exact sameRow_ne xs ys p1 p2 c1 c2 w (by unfold maxLen; omega) (by unfold maxLen; omega) r1 r2 h
      generalize encW xs = ex at *
      generalize encW ys = ey at *
      clear hn hm e1 e2 EYB q1 s1
      obtain ⟨b, hbx⟩ : ∃ b : Bool, (b = true ↔ xs = ys) := by
        by_cases h : xs = ys
        · exact ⟨true, by simp [h]⟩
        · exact ⟨false, by simp [h]⟩
      have SRb := SR.out b hbx
      have HSR := hid SRb
      clear SRb SR
      rcases (Nat.lt_or_ge ey.length ex.length).symm with hle | hle
      · have hk := HK.out ex.length (Nat.min_eq_left (by omega)).symm
        have hl1' : ex.length ≤ ex.length := by omega
        have hl2' : ex.length ≤ ey.length := by omega
        have C1 : Hid (∀ w p c, Byts w p ex → (convert 24 9 (.slice p ex.length c)).run Try.prog w = .ok (.string ⟨(ex.take ex.length).toArray⟩) w) := fun w p c h => conv_part h hl1'
        have C2 : Hid (∀ w p c, Byts w p ey → (convert 24 9 (.slice p ex.length c)).run Try.prog w = .ok (.string ⟨(ey.take ex.length).toArray⟩) w) := fun w p c h => conv_part h hl2'
        have HS := take_eq (ex.take ex.length) (ey.take ex.length)
        rw [hk, ← hbx] at HS
        generalize (⟨(ex.take ex.length).toArray⟩ : ByteArray) = S1 at *
        generalize (⟨(ey.take ex.length).toArray⟩ : ByteArray) = S2 at *
        have hS : ((S1.toList == S2.toList) == b) = true := by
          have h0 : (S1.toList == S2.toList) = b := by
            cases b
            · exact beq_eq_false_iff_ne.2 (fun h => absurd (HS.1 (text_eq (by rw [← ByteArray.toList_eq, ← ByteArray.toList_eq]; exact h))) (by decide))
            · rw [HS.2 rfl]; simp
          rw [h0]; simp
        have hS2 : ((S1 == S2) == b) = true := by rw [beq_toListBytes]; exact hS
        clear HK hk HS hbx
        go_enter Try.func6, Try.ntmps6
        go_wp2_with (first
          | (go_at_call 17; with_reducible refine (WK _).mono ?_; rintro e w1 ⟨rfl, b1⟩; have B1 := hid b1; clear b1; have SX' := SX.out w1 (HX.out.below B1.out); have SY' := SY.out w1 (HY.out.below B1.out))
          | (go_at_call 9; (first | (with_reducible refine SX'.mono ?_; rintro e w2 ⟨rfl, hw⟩; subst hw; clear SX') | (with_reducible refine SY'.mono ?_; rintro e w2 ⟨rfl, hw⟩; subst hw; clear SY'; have EX' := EX.out _ (HX.out.below B1.out))))
          | (go_at_call 10; (first | (with_reducible refine EX'.mono ?_; rintro e w3 ⟨b3, p3, c3, he, r3, k3⟩; subst he; have B3 := hid (B1.out.trans (b3.mono B1.out.size)); have R3 := hid r3; clear b3 EX' r3; have EY' := EY.out w3 (HY.out.below B3.out)) | (with_reducible refine EY'.mono ?_; rintro e w4 ⟨b4, p4, c4, he, r4, k4⟩; subst he; have B4 := hid (B3.out.trans (b4.mono B3.out.size)); have R4 := hid r4; have R34 := hid (R3.out.below b4); clear b4 EY' r4)))
          | fail)
        have CN : Hid (∀ (d : Nat) (os : Array Obj), Calls Try.prog 14 #[.slice p1 xs.length c1, .slice p2 ys.length c2] (grow (redrawn w4 d) os) fun e w'' => e = .returned (.bool b) ∧ ∃ p : Regrown, w'' = grow (redrawn w4 p.d) p.os) := fun d os => Calls.regrown_of (HSR.out _ ((HX.out.below B4.out).below (below_regrown w4 d os)) ((HY.out.below B4.out).below (below_regrown w4 d os)))
        have hcx := fun (d : Nat) (os : Array Obj) => C1.out _ p3 c3 (R34.out.below (below_regrown w4 d os))
        have hcy := fun (d : Nat) (os : Array Obj) => C2.out _ p4 c4 (R4.out.below (below_regrown w4 d os))
        refine wp_region_quiet_below (by kernel_rfl) (by kernel_rfl) ?_
        repeat (first | go_big_quiet_step (exact CN.out _ _) | quiet_step (exact CN.out _ _))
        refine wpQuiet_nil ?_
        intro _ hw'
        obtain ⟨⟨dq, osq⟩, hw''⟩ := hw'
        subst hw''
        go_wp2
        go_ret
        exact ⟨rfl, B4.out.trans ((below_regrown _ dq osq).mono B4.out.size)⟩
      · have hk := HK.out ey.length (Nat.min_eq_right (by omega)).symm
        have hl1' : ey.length ≤ ex.length := by omega
        have hl2' : ey.length ≤ ey.length := by omega
        have C1 : Hid (∀ w p c, Byts w p ex → (convert 24 9 (.slice p ey.length c)).run Try.prog w = .ok (.string ⟨(ex.take ey.length).toArray⟩) w) := fun w p c h => conv_part h hl1'
        have C2 : Hid (∀ w p c, Byts w p ey → (convert 24 9 (.slice p ey.length c)).run Try.prog w = .ok (.string ⟨(ey.take ey.length).toArray⟩) w) := fun w p c h => conv_part h hl2'
        have HS := take_eq (ex.take ey.length) (ey.take ey.length)
        rw [hk, ← hbx] at HS
        generalize (⟨(ex.take ey.length).toArray⟩ : ByteArray) = S1 at *
        generalize (⟨(ey.take ey.length).toArray⟩ : ByteArray) = S2 at *
        have hS : ((S1.toList == S2.toList) == b) = true := by
          have h0 : (S1.toList == S2.toList) = b := by
            cases b
            · exact beq_eq_false_iff_ne.2 (fun h => absurd (HS.1 (text_eq (by rw [← ByteArray.toList_eq, ← ByteArray.toList_eq]; exact h))) (by decide))
            · rw [HS.2 rfl]; simp
          rw [h0]; simp
        have hS2 : ((S1 == S2) == b) = true := by rw [beq_toListBytes]; exact hS
        clear HK hk HS hbx
        go_enter Try.func6, Try.ntmps6
        go_wp2_with (first
          | (go_at_call 17; with_reducible refine (WK _).mono ?_; rintro e w1 ⟨rfl, b1⟩; have B1 := hid b1; clear b1; have SX' := SX.out w1 (HX.out.below B1.out); have SY' := SY.out w1 (HY.out.below B1.out))
          | (go_at_call 9; (first | (with_reducible refine SX'.mono ?_; rintro e w2 ⟨rfl, hw⟩; subst hw; clear SX') | (with_reducible refine SY'.mono ?_; rintro e w2 ⟨rfl, hw⟩; subst hw; clear SY'; have EX' := EX.out _ (HX.out.below B1.out))))
          | (go_at_call 10; (first | (with_reducible refine EX'.mono ?_; rintro e w3 ⟨b3, p3, c3, he, r3, k3⟩; subst he; have B3 := hid (B1.out.trans (b3.mono B1.out.size)); have R3 := hid r3; clear b3 EX' r3; have EY' := EY.out w3 (HY.out.below B3.out)) | (with_reducible refine EY'.mono ?_; rintro e w4 ⟨b4, p4, c4, he, r4, k4⟩; subst he; have B4 := hid (B3.out.trans (b4.mono B3.out.size)); have R4 := hid r4; have R34 := hid (R3.out.below b4); clear b4 EY' r4)))
          | fail)
        have CN : Hid (∀ (d : Nat) (os : Array Obj), Calls Try.prog 14 #[.slice p1 xs.length c1, .slice p2 ys.length c2] (grow (redrawn w4 d) os) fun e w'' => e = .returned (.bool b) ∧ ∃ p : Regrown, w'' = grow (redrawn w4 p.d) p.os) := fun d os => Calls.regrown_of (HSR.out _ ((HX.out.below B4.out).below (below_regrown w4 d os)) ((HY.out.below B4.out).below (below_regrown w4 d os)))
        have hcx := fun (d : Nat) (os : Array Obj) => C1.out _ p3 c3 (R34.out.below (below_regrown w4 d os))
        have hcy := fun (d : Nat) (os : Array Obj) => C2.out _ p4 c4 (R4.out.below (below_regrown w4 d os))
        refine wp_region_quiet_below (by kernel_rfl) (by kernel_rfl) ?_
        repeat (first | go_big_quiet_step (exact CN.out _ _) | quiet_step (exact CN.out _ _))
        refine wpQuiet_nil ?_
        intro _ hw'
        obtain ⟨⟨dq, osq⟩, hw''⟩ := hw'
        subst hw''
        go_wp2
        go_ret
        exact ⟨rfl, B4.out.trans ((below_regrown _ dq osq).mono B4.out.size)⟩
end Go.Proofs.Ytaoeonbhlpnjiaa
