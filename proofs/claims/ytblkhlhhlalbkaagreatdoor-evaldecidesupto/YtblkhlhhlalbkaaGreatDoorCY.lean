/- What calc.part answers. Conditions: the numbers are within the numbers, the text is at most 2^62 bytes. What calc.worth answers at Substr. Conditions: the numbers are within the numbers, the text is at most 2^62 bytes. What calc.Call answers at Substr, and the work that it hands on. Conditions: the numbers are within the numbers, the text is at most 2^62 bytes. What calc.worth answers at Length, Abs, Upper, Lower. Conditions: the number is within the numbers, the text's length is Go's. More on variables that hold a value, for regions that draw their order. No conditions. What calc.Call answers at Coalesce; what calc.worth answers at Abs. Condition: the number is within the numbers. What calc.Call answers of any function and values. Conditions: the numbers are within the numbers, the texts lie within the reach. -/
import Derived.Test.YtblkhlhhlalbkaaGreatDoorCA
import Derived.Laws.DeepStrings4
import Derived.Test.YtblkhlhhlalbkaaGreatDoorCB
import Derived.Deep.RegionWith
import Derived.StillTailTactics
import Derived.Test.YtblkhlhhlalbkaaGreatDoorCC
import Derived.Deep.CutRange
import Derived.Deep.RegionHeld3
namespace Go.Proofs.YtblkhlhhlalbkaaGreatDoor
open Go.RowKit Go.Lib
set_option linter.unusedVariables false
set_option maxRecDepth 20000

/-- The places from lo on, below hi (from 0 on). -/
def loP (p : Int) : Nat := (max p 1 - 1).toNat
def hiP (s : ByteArray) (p n : Int) : Nat := (min ((s.size : Int) + 1) (p + n) - 1).toNat
def partV (s : ByteArray) (p n : Int) : ByteArray := if n ≤ 0 ∨ min ((s.size : Int) + 1) (p + n) ≤ max p 1 then ⟨#[]⟩ else s.extract (loP p) (hiP s p n)

theorem ext_eq {s : ByteArray} {a b c d : Nat} (h : a = c) (k : b = d) : Ending.returned (.string (s.extract a b)) = .returned (.string (s.extract c d)) := by rw [h, k]
theorem ext_all {s : ByteArray} {c d : Nat} (h : c = 0) (k : d = s.size) : Ending.returned (.string s) = .returned (.string (s.extract c d)) := by
  rw [h, k, ByteArray.extract_zero_size]

set_option maxHeartbeats 1000000 in
theorem part_any (s : ByteArray) (p n : Int) (w : World) (hs : s.size ≤ 4611686018427387904) (hp : inR p) (hn : inR n) :
    Calls Tryz.prog 169 #[.string s, .int .i64 p, .int .i64 n] w fun e w' => e = .returned (.string (partV s p n)) ∧ w' = w := by
  obtain ⟨p1, p2⟩ := hp
  obtain ⟨n1, n2⟩ := hn
  by_cases h0 : n ≤ 0
  · rw [show partV s p n = ⟨#[]⟩ from if_pos (Or.inl h0)]
    go_enter Tryz.func169, Tryz.ntmps169
    go_wp2
    go_ret
    exact ⟨rfl, rfl⟩
  · by_cases h1 : p ≤ 9223372036854775807 - n
    · by_cases h2 : (s.size : Int) + 1 ≤ p + n
      · by_cases h3 : p < 1
        · by_cases h4 : (s.size : Int) + 1 ≤ 1
          · rw [show partV s p n = ⟨#[]⟩ from if_pos (Or.inr (by omega))]
            go_enter Tryz.func169, Tryz.ntmps169
            go_wp2
            go_ret
            exact ⟨rfl, rfl⟩
          · rw [show partV s p n = s.extract (loP p) (hiP s p n) from if_neg (by omega)]
            go_enter Tryz.func169, Tryz.ntmps169
            go_wp2
            go_ret
            first | exact ⟨ext_eq (by unfold loP; omega) (by unfold hiP; omega), rfl⟩ | exact ⟨ext_all (by unfold loP; omega) (by unfold hiP; omega), rfl⟩
        · by_cases h4 : (s.size : Int) + 1 ≤ p
          · rw [show partV s p n = ⟨#[]⟩ from if_pos (Or.inr (by omega))]
            go_enter Tryz.func169, Tryz.ntmps169
            go_wp2
            go_ret
            exact ⟨rfl, rfl⟩
          · rw [show partV s p n = s.extract (loP p) (hiP s p n) from if_neg (by omega)]
            go_enter Tryz.func169, Tryz.ntmps169
            go_wp2
            go_ret
            first | exact ⟨ext_eq (by unfold loP; omega) (by unfold hiP; omega), rfl⟩ | exact ⟨ext_all (by unfold loP; omega) (by unfold hiP; omega), rfl⟩
      · by_cases h3 : p < 1
        · by_cases h4 : p + n ≤ 1
          · rw [show partV s p n = ⟨#[]⟩ from if_pos (Or.inr (by omega))]
            go_enter Tryz.func169, Tryz.ntmps169
            go_wp2
            go_ret
            exact ⟨rfl, rfl⟩
          · rw [show partV s p n = s.extract (loP p) (hiP s p n) from if_neg (by omega)]
            go_enter Tryz.func169, Tryz.ntmps169
            go_wp2
            go_ret
            first | exact ⟨ext_eq (by unfold loP; omega) (by unfold hiP; omega), rfl⟩ | exact ⟨ext_all (by unfold loP; omega) (by unfold hiP; omega), rfl⟩
        · by_cases h4 : p + n ≤ p
          · omega
          · rw [show partV s p n = s.extract (loP p) (hiP s p n) from if_neg (by omega)]
            go_enter Tryz.func169, Tryz.ntmps169
            go_wp2
            go_ret
            first | exact ⟨ext_eq (by unfold loP; omega) (by unfold hiP; omega), rfl⟩ | exact ⟨ext_all (by unfold loP; omega) (by unfold hiP; omega), rfl⟩
    · have h2 : (s.size : Int) + 1 ≤ p + n := by omega
      by_cases h3 : p < 1
      · by_cases h4 : (s.size : Int) + 1 ≤ 1
        · rw [show partV s p n = ⟨#[]⟩ from if_pos (Or.inr (by omega))]
          go_enter Tryz.func169, Tryz.ntmps169
          go_wp2
          go_ret
          exact ⟨rfl, rfl⟩
        · rw [show partV s p n = s.extract (loP p) (hiP s p n) from if_neg (by omega)]
          go_enter Tryz.func169, Tryz.ntmps169
          go_wp2
          go_ret
          first | exact ⟨ext_eq (by unfold loP; omega) (by unfold hiP; omega), rfl⟩ | exact ⟨ext_all (by unfold loP; omega) (by unfold hiP; omega), rfl⟩
      · by_cases h4 : (s.size : Int) + 1 ≤ p
        · rw [show partV s p n = ⟨#[]⟩ from if_pos (Or.inr (by omega))]
          go_enter Tryz.func169, Tryz.ntmps169
          go_wp2
          go_ret
          exact ⟨rfl, rfl⟩
        · rw [show partV s p n = s.extract (loP p) (hiP s p n) from if_neg (by omega)]
          go_enter Tryz.func169, Tryz.ntmps169
          go_wp2
          go_ret
          first | exact ⟨ext_eq (by unfold loP; omega) (by unfold hiP; omega), rfl⟩ | exact ⟨ext_all (by unfold loP; omega) (by unfold hiP; omega), rfl⟩
end Go.Proofs.YtblkhlhhlalbkaaGreatDoor
namespace Go.Proofs.YtblkhlhhlalbkaaGreatDoor
open Go.RowKit Go.Lib Go.Sort
set_option linter.unusedVariables false
set_option maxRecDepth 20000

/-- One draw more. -/
theorem below_drawn (W : World) : Below W.heap.size W { W with drawn := W.drawn + 1 } := ⟨rfl, rfl, rfl, Nat.le_refl _, fun _ _ => rfl⟩

set_option maxHeartbeats 4000000 in
theorem worth_substr (p : Option Addr) (c : Nat) (k1 n1 k2 n2 k3 n3 : Int) (s1 s2 s3 : ByteArray) (w : World) (hR : Row w p [⟨k1, n1, s1⟩, ⟨k2, n2, s2⟩, ⟨k3, n3, s3⟩]) (hs : s1.size ≤ 4611686018427387904) (h2 : inR n2) (h3 : inR n3) :
    Calls Tryz.prog 123 #[.int .i64 5, .slice p 3 c] w fun e w' => e = .returned (.agg #[.int .i64 3, .int .i64 0, .string (partV s1 n2 n3)]) ∧ Below w.heap.size w w' := by
  have P := fun w => part_any s1 n2 n3 w hs h2 h3
  have T := fun w => text_any (partV s1 n2 n3) w
  generalize partV s1 n2 n3 = t at *
  have bR := (Box.new w 0 0 ⟨#[]⟩ 23).alloc (.cells #[.int .i64 k1, .int .i64 n1, .string s1] 23)
  have bV := Box.at (b := w.heap.size + 1) (w := w.alloc (.cells #[.int .i64 0, .int .i64 0, .string ⟨#[]⟩] 23)) (by simp) k1 n1 s1 23
  have hB : Below w.heap.size w ((w.alloc (.cells #[.int .i64 0, .int .i64 0, .string ⟨#[]⟩] 23)).alloc (.cells #[.int .i64 k1, .int .i64 n1, .string s1] 23)) := ((Below.refl _ _).alloc (Nat.le_refl _) _).alloc (by simp) _
  have hR1 := hR.below hB
  obtain ⟨b, off, rfl, c10, c11, c12⟩ := hR.at (i := 0) (by simp)
  have hb := cell_lt c10
  simp only [List.getElem_cons_zero, Nat.zero_mul, Nat.add_zero] at c10 c11 c12 hb
  clear hR hs h2 h3
  go_enter Tryz.func123, Tryz.ntmps123
  go_wp2_with fail
  refine wp_region_still_tail 10 (by kernel_rfl) (by kernel_rfl) ?_
  generalize ((w.alloc (.cells #[.int .i64 0, .int .i64 0, .string ⟨#[]⟩] 23)).alloc (.cells #[.int .i64 k1, .int .i64 n1, .string s1] 23)) = W at *
  have hD := below_drawn W
  replace bR := bR.below hD
  replace bV := bV.below hD
  replace hR1 := hR1.below hD
  replace hB := hB.trans (hD.mono hB.size)
  clear hD
  generalize ({ W with drawn := W.drawn + 1 } : World) = D at *
  clear W c10 c11 c12 hb
  obtain ⟨b', off', e', c20, c21, c22⟩ := hR1.at (i := 1) (by simp)
  obtain ⟨rfl, rfl⟩ : b = b' ∧ off = off' := by simpa using e'
  obtain ⟨b', off', e'', c30, c31, c32⟩ := hR1.at (i := 2) (by simp)
  obtain ⟨rfl, rfl⟩ : b = b' ∧ off = off' := by simpa using e''
  obtain ⟨v0, v1, v2, _⟩ := bV.out
  clear e' e'' hR1 bV
  simp only [List.getElem_cons_zero, List.getElem_cons_succ, Nat.one_mul] at c20 c21 c22 c30 c31 c32
  simp only [List.take_succ_cons, List.take_zero, List.drop_succ_cons, List.drop_zero]
  repeat still_step
  refine wpStill_nil ?_
  go_wp2_with (first
    | (go_at_call 169; with_reducible refine (P _).mono ?_; rintro e w' ⟨rfl, rfl⟩)
    | (go_at_call 164; with_reducible refine (T _).mono ?_; rintro e w2 ⟨rfl, b2⟩; obtain ⟨r0, r1, r2, f0, f1, f2⟩ := (bR.below b2).out; have B2 := hB.trans (b2.mono hB.size)))
  refine bodyPost_ret (by simp [results, Tryz.results123, go_sem, r0, r1, r2]; try rfl) rfl ?_
  exact ⟨rfl, by go_grown⟩
end Go.Proofs.YtblkhlhhlalbkaaGreatDoor
namespace Go.Proofs.YtblkhlhhlalbkaaGreatDoor
open Go.RowKit Go.Lib Go.Sort
set_option linter.unusedVariables false
set_option maxRecDepth 20000

theorem enters_call1 (args : Array Value) (w : World) : (callFunc 122 args).run Tryz.prog w = .ok (.enter 122 args) w := by
  first | (simp [go_sem]; done) | kernel_rfl

/-- The ending of worth: its value, or what it threw. -/
def endW (x : Ans) (e : Ending) : Prop := (e = .returned (.agg #[.int .i64 x.v.k, .int .i64 x.v.n, .string x.v.s]) ∧ x.e = 0) ∨ (e = .panicked thrown ∧ x.v = nullV ∧ x.e = 40)

set_option maxHeartbeats 400000 in
theorem call1_any (b : Nat) (f : Int) (p : Option Addr) (xs : List Val) (c : Nat) (x : Ans) (w : World) (hc : CB w b f (.slice p xs.length c)) (hR : Row w p xs)
    (hW : ∀ w1, Row w1 p xs → Calls Tryz.prog 123 #[.int .i64 f, .slice p xs.length c] w1 fun e w' => endW x e ∧ Below w1.heap.size w1 w') :
    Calls Tryz.prog 122 #[.pointer (some ⟨b, 0, none⟩), .pointer (some ⟨b + 1, 0, none⟩)] w fun e w' => endA x e ∧ Below w.heap.size w w' := by
  have hB : Below w.heap.size w (w.alloc (.cells #[.int .i64 0, .int .i64 0, .string ⟨#[]⟩] 23)) := (Below.refl _ _).alloc (Nat.le_refl _) _
  obtain ⟨o0, o1, _⟩ := (hc.below hB).out
  have Q := hW _ (hR.below hB)
  clear hc hR hW
  obtain ⟨⟨k', n', s'⟩, er⟩ := x
  go_enter Tryz.func122, Tryz.ntmps122
  go_wp2_with fail
  refine Q.mono ?_
  rintro e w1 ⟨he, b1⟩
  obtain ⟨r0, r1, r2, f0, f1, f2⟩ := cells3 b1
  have B1 := below_new b1
  rcases he with ⟨he, rfl⟩ | ⟨rfl, hv, hx⟩
  · obtain rfl : e = .returned (.agg #[.int .i64 k', .int .i64 n', .string s']) := he
    go_wp2
    refine bodyPost_ret (by simp [results, Tryz.results122, go_sem, r0, r1, r2]; try rfl) rfl ?_
    exact ⟨Or.inl rfl, by go_grown⟩
  · go_wp2
    exact ⟨rfl, Or.inr ⟨rfl, hv, hx⟩, by go_grown⟩

/-- The work of Call, caught. -/
theorem caught_call (b : Nat) (f : Int) (p : Option Addr) (xs : List Val) (c : Nat) (x : Ans)
    (hW : ∀ w1, Row w1 p xs → Calls Tryz.prog 123 #[.int .i64 f, .slice p xs.length c] w1 fun e w' => endW x e ∧ Below w1.heap.size w1 w') :
    ∀ w1, CB w1 b f (.slice p xs.length c) → Row w1 p xs →
      Calls Tryz.prog 107 #[.func (.func 122) #[] #[.pointer (some ⟨b, 0, none⟩), .pointer (some ⟨b + 1, 0, none⟩)]] w1 fun e w' => e = .returned x.out ∧ Below w1.heap.size w1 w' :=
  fun w1 hc hR => caught_any 122 _ x _ (enters_call1 _) (fun w0 b0 => call1_any b f p xs c x w0 (hc.below b0) (hR.below b0) hW)

/-- Substr of a Text, an Int, an Int. -/
theorem call_substr (p : Option Addr) (c : Nat) (n1 n2 n3 : Int) (s1 s2 s3 : ByteArray) (w : World) (hR : Row w p [⟨3, n1, s1⟩, ⟨2, n2, s2⟩, ⟨2, n3, s3⟩]) (hs : s1.size ≤ 4611686018427387904) (h2 : inR n2) (h3 : inR n3) :
    Calls Tryz.prog 81 #[.int .i64 5, .slice p 3 c] w fun e w' => e = .returned (⟨textV (partV s1 n2 n3), 0⟩ : Ans).out ∧ Below w.heap.size w w' := by
  have good : ∀ j (h : j < [(⟨3, n1, s1⟩ : Val), ⟨2, n2, s2⟩, ⟨2, n3, s3⟩].length), badV 5 j [(⟨3, n1, s1⟩ : Val), ⟨2, n2, s2⟩, ⟨2, n3, s3⟩][j] = false := by
    intro j h
    have : j = 0 ∨ j = 1 ∨ j = 2 := by simp at h; omega
    rcases this with rfl | rfl | rfl <;> rfl
  refine call_main 5 p [⟨3, n1, s1⟩, ⟨2, n2, s2⟩, ⟨2, n3, s3⟩] c ⟨textV (partV s1 n2 n3), 0⟩ w (by decide) (by decide) rfl (by unfold maxLen; simp) hR ?_ ?_ ?_
  · rintro ⟨j, h, hb⟩
    rw [good j h] at hb
    exact absurd hb (by decide)
  · intro _ hn
    exact absurd hn (by simp [isNull])
  · intro _ _
    exact caught_call w.heap.size 5 p _ c ⟨textV (partV s1 n2 n3), 0⟩ (fun w1 hR1 => (worth_substr p c 3 n1 2 n2 2 n3 s1 s2 s3 w1 hR1 hs h2 h3).mono (by rintro e w' ⟨rfl, b⟩; exact ⟨Or.inl ⟨rfl, rfl⟩, b⟩))
end Go.Proofs.YtblkhlhhlalbkaaGreatDoor
namespace Go.Proofs.YtblkhlhhlalbkaaGreatDoor
open Go.RowKit Go.Lib Go.Sort
set_option linter.unusedVariables false
set_option maxRecDepth 20000

set_option maxHeartbeats 1000000 in
theorem worth_length (p : Option Addr) (c : Nat) (k1 n1 : Int) (s1 : ByteArray) (w : World) (hR : Row w p [⟨k1, n1, s1⟩]) :
    Calls Tryz.prog 123 #[.int .i64 1, .slice p 1 c] w fun e w' => e = .returned (.agg #[.int .i64 2, .int .i64 (s1.size : Int), .string ⟨#[]⟩]) ∧ Below w.heap.size w w' := by
  have T := fun w => number_any (s1.size : Int) w
  have bR := (Box.new w 0 0 ⟨#[]⟩ 23).alloc (.cells #[.int .i64 k1, .int .i64 n1, .string s1] 23)
  have hB : Below w.heap.size w ((w.alloc (.cells #[.int .i64 0, .int .i64 0, .string ⟨#[]⟩] 23)).alloc (.cells #[.int .i64 k1, .int .i64 n1, .string s1] 23)) := ((Below.refl _ _).alloc (Nat.le_refl _) _).alloc (by simp) _
  obtain ⟨b, off, rfl, c10, c11, c12⟩ := hR.at (i := 0) (by simp)
  have hb := cell_lt c10
  simp only [List.getElem_cons_zero, Nat.zero_mul, Nat.add_zero] at c10 c11 c12 hb
  clear hR
  go_enter Tryz.func123, Tryz.ntmps123
  go_wp2_with (first
    | (go_at_call 109; with_reducible refine (T _).mono ?_; rintro e w2 ⟨rfl, b2⟩; obtain ⟨r0, r1, r2, f0, f1, f2⟩ := (bR.below b2).out; have B2 := hB.trans (b2.mono hB.size)))
  refine bodyPost_ret (by simp [results, Tryz.results123, go_sem, r0, r1, r2]; try rfl) rfl ?_
  exact ⟨rfl, by go_grown⟩

set_option maxHeartbeats 1000000 in
theorem worth_upper (p : Option Addr) (c : Nat) (k1 n1 : Int) (s1 : ByteArray) (w : World) (hR : Row w p [⟨k1, n1, s1⟩]) (hs : s1.size ≤ maxLen) :
    Calls Tryz.prog 123 #[.int .i64 3, .slice p 1 c] w fun e w' => e = .returned (.agg #[.int .i64 3, .int .i64 0, .string (kExV 97 65 s1)]) ∧ Below w.heap.size w w' := by
  have X : ∀ w, Calls Tryz.prog 168 #[.string s1, .int .u8 97, .int .u8 65] w fun e w' => e = .returned (.string (kExV 97 65 s1)) ∧ Below w.heap.size w w' := fun w => exchanged_any 97 65 s1 w hs (by omega) (by omega)
  have T := fun w => text_any (kExV 97 65 s1) w
  have bR := (Box.new w 0 0 ⟨#[]⟩ 23).alloc (.cells #[.int .i64 k1, .int .i64 n1, .string s1] 23)
  have hB : Below w.heap.size w ((w.alloc (.cells #[.int .i64 0, .int .i64 0, .string ⟨#[]⟩] 23)).alloc (.cells #[.int .i64 k1, .int .i64 n1, .string s1] 23)) := ((Below.refl _ _).alloc (Nat.le_refl _) _).alloc (by simp) _
  obtain ⟨b, off, rfl, c10, c11, c12⟩ := hR.at (i := 0) (by simp)
  have hb := cell_lt c10
  simp only [List.getElem_cons_zero, Nat.zero_mul, Nat.add_zero] at c10 c11 c12 hb
  clear hR hs
  go_enter Tryz.func123, Tryz.ntmps123
  go_wp2_with (first
    | (go_at_call 168; with_reducible refine (X _).mono ?_; rintro e w1 ⟨rfl, b1⟩; replace bR := bR.below b1; replace hB := hB.trans (b1.mono hB.size))
    | (go_at_call 164; with_reducible refine (T _).mono ?_; rintro e w2 ⟨rfl, b2⟩; obtain ⟨r0, r1, r2, f0, f1, f2⟩ := (bR.below b2).out; have B2 := hB.trans (b2.mono hB.size)))
  refine bodyPost_ret (by simp [results, Tryz.results123, go_sem, r0, r1, r2]; try rfl) rfl ?_
  exact ⟨rfl, by go_grown⟩

set_option maxHeartbeats 1000000 in
theorem worth_lower (p : Option Addr) (c : Nat) (k1 n1 : Int) (s1 : ByteArray) (w : World) (hR : Row w p [⟨k1, n1, s1⟩]) (hs : s1.size ≤ maxLen) :
    Calls Tryz.prog 123 #[.int .i64 4, .slice p 1 c] w fun e w' => e = .returned (.agg #[.int .i64 3, .int .i64 0, .string (kExV 65 97 s1)]) ∧ Below w.heap.size w w' := by
  have X : ∀ w, Calls Tryz.prog 168 #[.string s1, .int .u8 65, .int .u8 97] w fun e w' => e = .returned (.string (kExV 65 97 s1)) ∧ Below w.heap.size w w' := fun w => exchanged_any 65 97 s1 w hs (by omega) (by omega)
  have T := fun w => text_any (kExV 65 97 s1) w
  have bR := (Box.new w 0 0 ⟨#[]⟩ 23).alloc (.cells #[.int .i64 k1, .int .i64 n1, .string s1] 23)
  have hB : Below w.heap.size w ((w.alloc (.cells #[.int .i64 0, .int .i64 0, .string ⟨#[]⟩] 23)).alloc (.cells #[.int .i64 k1, .int .i64 n1, .string s1] 23)) := ((Below.refl _ _).alloc (Nat.le_refl _) _).alloc (by simp) _
  obtain ⟨b, off, rfl, c10, c11, c12⟩ := hR.at (i := 0) (by simp)
  have hb := cell_lt c10
  simp only [List.getElem_cons_zero, Nat.zero_mul, Nat.add_zero] at c10 c11 c12 hb
  clear hR hs
  go_enter Tryz.func123, Tryz.ntmps123
  go_wp2_with (first
    | (go_at_call 168; with_reducible refine (X _).mono ?_; rintro e w1 ⟨rfl, b1⟩; replace bR := bR.below b1; replace hB := hB.trans (b1.mono hB.size))
    | (go_at_call 164; with_reducible refine (T _).mono ?_; rintro e w2 ⟨rfl, b2⟩; obtain ⟨r0, r1, r2, f0, f1, f2⟩ := (bR.below b2).out; have B2 := hB.trans (b2.mono hB.size)))
  refine bodyPost_ret (by simp [results, Tryz.results123, go_sem, r0, r1, r2]; try rfl) rfl ?_
  exact ⟨rfl, by go_grown⟩

/-- A function of one value, which it takes. -/
theorem call_one (f : Int) (p : Option Addr) (c : Nat) (v : Val) (x : Ans) (w : World) (h1 : argsV f = 1) (h6 : f ≠ 6) (hk : v.k ≠ 0) (ht : takesV f 0 v.k = true) (hR : Row w p [v])
    (hW : ∀ w1, Row w1 p [v] → Calls Tryz.prog 123 #[.int .i64 f, .slice p [v].length c] w1 fun e w' => endW x e ∧ Below w1.heap.size w1 w') :
    Calls Tryz.prog 81 #[.int .i64 f, .slice p 1 c] w fun e w' => e = .returned x.out ∧ Below w.heap.size w w' := by
  have good : ∀ j (h : j < [v].length), badV f j [v][j] = false := by
    intro j h
    obtain rfl : j = 0 := by simp at h; omega
    simp [badV, ht]
  refine call_main f p [v] c x w (by rw [h1]; decide) h6 (by rw [h1]; rfl) (by unfold maxLen; simp) hR ?_ ?_ ?_
  · rintro ⟨j, h, hb⟩
    rw [good j h] at hb
    exact absurd hb (by decide)
  · intro _ hn
    simp [isNull] at hn
    exact absurd hn hk
  · intro _ _
    exact caught_call w.heap.size f p _ c x hW
end Go.Proofs.YtblkhlhhlalbkaaGreatDoor
namespace Go.Proofs.YtblkhlhhlalbkaaGreatDoor
open Go.RowKit Go.Lib Go.Sort
set_option linter.unusedVariables false
set_option maxRecDepth 20000

theorem below_two {b : Nat} {w wn wm : World} {o1 o2 : Obj} (B : Below b w wn) (h : b ≤ wn.heap.size) (bn : Below ((wn.alloc o1).alloc o2).heap.size ((wn.alloc o1).alloc o2) wm) : Below b w wm :=
  ((B.alloc h o1).alloc (Nat.le_trans h (by simp)) o2).trans (bn.mono (by simp; omega))
theorem box_after (w : World) (o : Obj) (k n : Int) (s : ByteArray) (t : TypeId) : Box ((w.alloc o).alloc (.cells #[.int .i64 k, .int .i64 n, .string s] t)) (w.heap.size + 1) ⟨k, n, s⟩ := Box.at (by simp) k n s t
theorem Box.three {w : World} {b : Nat} {k n : Int} {s : ByteArray} (h : Box w b ⟨k, n, s⟩) : w.cell? ⟨b, 0, none⟩ = some (.int .i64 k) ∧ w.cell? ⟨b, 1, none⟩ = some (.int .i64 n) ∧ w.cell? ⟨b, 2, none⟩ = some (.string s) := ⟨h.1, h.2.1, h.2.2.1⟩
theorem ne_up {a b : Nat} (h : a < b) : b + 1 ≠ a := by omega
theorem ne_lo {a b : Nat} (h : a < b) : b ≠ a := by omega
theorem le_up {a b : Nat} (h : a ≤ b) : a ≤ b + 1 := by omega
end Go.Proofs.YtblkhlhhlalbkaaGreatDoor
namespace Go.Proofs.YtblkhlhhlalbkaaGreatDoor
open Go.RowKit Go.Lib Go.Sort
set_option linter.unusedVariables false

def absV (n : Int) : Ans := if n < 0 then over (0 - n) else ⟨numV n, 0⟩

set_option maxHeartbeats 1000000 in
theorem worth_abs (p : Option Addr) (c : Nat) (k1 n1 : Int) (s1 : ByteArray) (w : World) (hR : Row w p [⟨k1, n1, s1⟩]) (hn : inR n1) :
    Calls Tryz.prog 123 #[.int .i64 2, .slice p 1 c] w fun e w' => endW (absV n1) e ∧ Below w.heap.size w w' := by
  have Q := fun w => difference_any 0 n1 w (by decide) hn
  have bR := (Box.new w 0 0 ⟨#[]⟩ 23).alloc (.cells #[.int .i64 k1, .int .i64 n1, .string s1] 23)
  have hB : Below w.heap.size w ((w.alloc (.cells #[.int .i64 0, .int .i64 0, .string ⟨#[]⟩] 23)).alloc (.cells #[.int .i64 k1, .int .i64 n1, .string s1] 23)) := ((Below.refl _ _).alloc (Nat.le_refl _) _).alloc (by simp) _
  obtain ⟨b, off, rfl, c10, c11, c12⟩ := hR.at (i := 0) (by simp)
  have hb := cell_lt c10
  simp only [List.getElem_cons_zero, Nat.zero_mul, Nat.add_zero] at c10 c11 c12 hb
  clear hR
  by_cases h0 : n1 < 0
  · by_cases h : inR (0 - n1)
    · rw [show absV n1 = ⟨numV (0 - n1), 0⟩ from (if_pos h0).trans (if_pos h)]
      rw [endN_in h] at Q
      have T := fun w => number_any (0 - n1) w
      generalize 0 - n1 = m at *
      clear h hn
      go_enter Tryz.func123, Tryz.ntmps123
      go_wp2_with (first
        | (go_at_call 110; with_reducible refine (Q _).mono ?_; rintro e wn ⟨rfl, rfl⟩)
        | (go_at_call 109; with_reducible refine (T _).mono ?_; rintro e w2 ⟨rfl, b2⟩; obtain ⟨r0, r1, r2, f0, f1, f2⟩ := (bR.below b2).out; have B2 := hB.trans (b2.mono hB.size)))
      refine bodyPost_ret (by simp [results, Tryz.results123, go_sem, r0, r1, r2]; try rfl) rfl ?_
      exact ⟨Or.inl ⟨rfl, rfl⟩, by go_grown⟩
    · rw [show absV n1 = ⟨nullV, 40⟩ from (if_pos h0).trans (if_neg h)]
      rw [endN_out h] at Q
      clear h hn
      go_enter Tryz.func123, Tryz.ntmps123
      go_wp2_with (first
        | (go_at_call 110; with_reducible refine (Q _).mono ?_; rintro e wn ⟨rfl, rfl⟩))
      exact ⟨rfl, Or.inr ⟨rfl, rfl, rfl⟩, by go_grown⟩
  · rw [show absV n1 = ⟨numV n1, 0⟩ from if_neg h0]
    have T := fun w => number_any n1 w
    clear hn Q
    go_enter Tryz.func123, Tryz.ntmps123
    go_wp2_with (first
      | (go_at_call 109; with_reducible refine (T _).mono ?_; rintro e w2 ⟨rfl, b2⟩; obtain ⟨r0, r1, r2, f0, f1, f2⟩ := (bR.below b2).out; have B2 := hB.trans (b2.mono hB.size)))
    refine bodyPost_ret (by simp [results, Tryz.results123, go_sem, r0, r1, r2]; try rfl) rfl ?_
    exact ⟨Or.inl ⟨rfl, rfl⟩, by go_grown⟩

/-- The cells that the call of coalesce reads. -/
def CS (w : World) (v : Nat) (rb off : Nat) (c : Nat) (k1 n1 : Int) (s1 : ByteArray) (k2 n2 : Int) (s2 : ByteArray) : Prop :=
  w.cell? ⟨v, 0, none⟩ = some (.slice (some ⟨rb, off, none⟩) 2 c) ∧ w.cell? ⟨rb, off, none⟩ = some (.int .i64 k1) ∧ w.cell? ⟨rb, off + 1, none⟩ = some (.int .i64 n1) ∧ w.cell? ⟨rb, off + 2, none⟩ = some (.string s1) ∧
  w.cell? ⟨rb, off + 3, none⟩ = some (.int .i64 k2) ∧ w.cell? ⟨rb, off + 3 + 1, none⟩ = some (.int .i64 n2) ∧ w.cell? ⟨rb, off + 3 + 2, none⟩ = some (.string s2)
theorem CS.all {w : World} {v rb off c : Nat} {k1 n1 k2 n2 : Int} {s1 s2 : ByteArray} (h : CS w v rb off c k1 n1 s1 k2 n2 s2) :
  w.cell? ⟨v, 0, none⟩ = some (.slice (some ⟨rb, off, none⟩) 2 c) ∧ w.cell? ⟨rb, off, none⟩ = some (.int .i64 k1) ∧ w.cell? ⟨rb, off + 1, none⟩ = some (.int .i64 n1) ∧ w.cell? ⟨rb, off + 2, none⟩ = some (.string s1) ∧
  w.cell? ⟨rb, off + 3, none⟩ = some (.int .i64 k2) ∧ w.cell? ⟨rb, off + 3 + 1, none⟩ = some (.int .i64 n2) ∧ w.cell? ⟨rb, off + 3 + 2, none⟩ = some (.string s2) := h
theorem CS.below {w w' : World} {v rb off c : Nat} {k1 n1 k2 n2 : Int} {s1 s2 : ByteArray} (h : CS w v rb off c k1 n1 s1 k2 n2 s2) (k : Below w.heap.size w w') : CS w' v rb off c k1 n1 s1 k2 n2 s2 :=
  ⟨below_cell k h.1, below_cell k h.2.1, below_cell k h.2.2.1, below_cell k h.2.2.2.1, below_cell k h.2.2.2.2.1, below_cell k h.2.2.2.2.2.1, below_cell k h.2.2.2.2.2.2⟩
theorem CS.drew {w : World} {v rb off c : Nat} {k1 n1 k2 n2 : Int} {s1 s2 : ByteArray} (h : CS w v rb off c k1 n1 s1 k2 n2 s2) : CS w.drew v rb off c k1 n1 s1 k2 n2 s2 := h.below ((Below.refl _ _).drew)
theorem far3 {w : World} {d : Nat} {a : Addr} (hd : d ≠ a.block) (x y z : Value) : (((w.setCell ⟨d, 0, none⟩ x).setCell ⟨d, 1, none⟩ y).setCell ⟨d, 2, none⟩ z).cell? a = w.cell? a := by
  rw [World.cell?_setCell_far _ _ _ _ hd, World.cell?_setCell_far _ _ _ _ hd, World.cell?_setCell_far _ _ _ _ hd]
theorem CS.put3 {w : World} {v rb off c d : Nat} {k1 n1 k2 n2 : Int} {s1 s2 : ByteArray} (h : CS w v rb off c k1 n1 s1 k2 n2 s2) (hv : d ≠ v) (hr : d ≠ rb) (x y z : Value) : CS (((w.setCell ⟨d, 0, none⟩ x).setCell ⟨d, 1, none⟩ y).setCell ⟨d, 2, none⟩ z) v rb off c k1 n1 s1 k2 n2 s2 := by
  unfold CS
  rw [far3 hv, far3 hr, far3 hr, far3 hr, far3 hr, far3 hr, far3 hr]
  exact h

set_option maxRecDepth 100000 in
set_option maxHeartbeats 4000000 in
theorem call_coal (p : Option Addr) (c : Nat) (k1 n1 k2 n2 : Int) (s1 s2 : ByteArray) (w : World) (hR : Row w p [⟨k1, n1, s1⟩, ⟨k2, n2, s2⟩]) :
    Calls Tryz.prog 81 #[.int .i64 6, .slice p 2 c] w fun e w' => e = .returned (coalV ⟨k1, n1, s1⟩ ⟨k2, n2, s2⟩).out ∧ Below w.heap.size w w' := by
  have A := fun w => args_any 6 w
  rw [show argsV 6 = 2 from rfl] at A
  have K := fun w => coalesce_any ⟨k1, n1, s1⟩ ⟨k2, n2, s2⟩ w
  unfold Val.v at K
  rw [Ans.out_eq] at *
  generalize coalV ⟨k1, n1, s1⟩ ⟨k2, n2, s2⟩ = r at *
  obtain ⟨⟨k', n', s'⟩, er⟩ := r
  simp only [] at K
  have X := cb_new w 6 p [⟨k1, n1, s1⟩, ⟨k2, n2, s2⟩] c
  have hb0 : Below w.heap.size w (((w.alloc (.cells #[.int .i64 6] 3)).alloc (.cells #[.slice p [(⟨k1, n1, s1⟩ : Val), ⟨k2, n2, s2⟩].length c] 27)).alloc (.cells #[.int .i64 0, .int .i64 0, .string ⟨#[]⟩] 23)) := (((Below.refl _ _).alloc (Nat.le_refl _) _).alloc (by simp) _).alloc (by simp; omega) _
  have hR1 := hR.below hb0
  obtain ⟨rb, off, e0, c10, c11, c12⟩ := hR1.at (i := 0) (by simp)
  obtain ⟨rb', off', e1, c20, c21, c22⟩ := hR1.at (i := 1) (by simp)
  obtain ⟨rb2, off2, e2, d10, _, _⟩ := hR.at (i := 0) (by simp)
  have hrb : rb2 < w.heap.size := cell_lt d10
  subst e0
  obtain ⟨rfl, rfl⟩ : rb = rb' ∧ off = off' := by simpa using e1
  obtain ⟨rfl, rfl⟩ : rb = rb2 ∧ off = off2 := by simpa using e2
  clear e1 e2 d10 hR hR1
  simp only [List.getElem_cons_zero, List.getElem_cons_succ, Nat.zero_mul, Nat.one_mul, Nat.add_zero] at c10 c11 c12 c20 c21 c22
  have hS : CS _ (w.heap.size + 1) rb off c k1 n1 s1 k2 n2 s2 := ⟨X.out.2.1, c10, c11, c12, c20, c21, c22⟩
  clear c10 c11 c12 c20 c21 c22
  simp only [List.length_cons, List.length_nil, Nat.zero_add, Nat.reduceAdd] at X hS hb0
  have AH : Hid (∀ d os, Calls Tryz.prog 119 #[.int .i64 6] (grow (redrawn (((w.alloc (.cells #[.int .i64 6] 3)).alloc (.cells #[.slice (some ⟨rb, off, none⟩) 2 c] 27)).alloc (.cells #[.int .i64 0, .int .i64 0, .string ⟨#[]⟩] 23)) d) os) fun e w'' => e = .returned (.int .i64 2) ∧ ∃ q : Regrown, w'' = grow (redrawn (((w.alloc (.cells #[.int .i64 6] 3)).alloc (.cells #[.slice (some ⟨rb, off, none⟩) 2 c] 27)).alloc (.cells #[.int .i64 0, .int .i64 0, .string ⟨#[]⟩] 23)) q.d) q.os) :=
    fun d os => Calls.regrown_of ((A _).mono (by rintro e w' ⟨rfl, rfl⟩; exact ⟨rfl, Below.refl _ _⟩))
  obtain ⟨o0, o1, _⟩ := X.out
  have g0 := cell_regrown o0
  have g1 := cell_regrown o1
  clear o0 o1
  go_enter Tryz.func81, Tryz.ntmps81
  go_wp2_with (go_at_call 119; with_reducible refine (A _).mono ?_; rintro e w' ⟨rfl, rfl⟩)
  refine wp_region_quiet_below (by kernel_rfl) (by kernel_rfl) ?_
  repeat (quiet_step (first | (go_at_call 119; with_reducible exact AH.out _ _)))
  refine wpQuiet_nil ?_
  intro _ hw'
  obtain ⟨⟨dq, osq⟩, hw''⟩ := hw'
  subst hw''
  simp only []
  have b1 := below_regrown (((w.alloc (.cells #[.int .i64 6] 3)).alloc (.cells #[.slice (some ⟨rb, off, none⟩) 2 c] 27)).alloc (.cells #[.int .i64 0, .int .i64 0, .string ⟨#[]⟩] 23)) dq osq
  replace X := X.below b1
  replace hS := hS.below b1
  have B := hb0.trans (b1.mono hb0.size)
  generalize grow (redrawn (((w.alloc (.cells #[.int .i64 6] 3)).alloc (.cells #[.slice (some ⟨rb, off, none⟩) 2 c] 27)).alloc (.cells #[.int .i64 0, .int .i64 0, .string ⟨#[]⟩] 23)) dq) osq = W at *
  clear b1 g0 g1 AH A hb0
  obtain ⟨o0, o1, l0, l1, l2⟩ := X.out
  have R := X.r
  have q1 : w.heap.size + 1 + 1 ≠ w.heap.size + 1 := by omega
  have q2 : w.heap.size + 1 + 1 ≠ rb := by omega
  have q3 : w.heap.size ≤ w.heap.size + 1 + 1 := by omega
  obtain ⟨r0, r1, r2, f0, f1, f2⟩ := R.out
  go_upto_region 6 with fail
  go_region_held3 (fun w' => w'.cell? ⟨w.heap.size + 1, 0, none⟩ = some (.slice (some ⟨rb, off, none⟩) 2 c) ∧ w'.cell? ⟨rb, off, none⟩ = some (.int .i64 k1) ∧ w'.cell? ⟨rb, off + 1, none⟩ = some (.int .i64 n1) ∧ w'.cell? ⟨rb, off + 2, none⟩ = some (.string s1) ∧ w'.cell? ⟨rb, off + 3, none⟩ = some (.int .i64 k2) ∧ w'.cell? ⟨rb, off + 3 + 1, none⟩ = some (.int .i64 n2) ∧ w'.cell? ⟨rb, off + 3 + 2, none⟩ = some (.string s2))
    (with_reducible first | exact hS.all | exact hS.drew.all | exact (hS.put3 q1 q2 _ _ _).all)
    (first | (go_at_call 120; with_reducible refine (K _).mono ?_; rintro e wn ⟨rfl, bn⟩; (with_reducible first | replace hS := hS.below bn | replace hS := hS.drew.below bn); (with_reducible first | replace R := R.below bn | replace R := R.drew.below bn); (with_reducible first | replace B := B.trans (bn.mono B.size) | replace B := B.drew.trans (bn.mono B.drew.size)); obtain ⟨r0, r1, r2, f0, f1, f2⟩ := R.out))
  go_wp2_with fail
  have R' := R.put k' n' s'
  have B' := below_put3 B q3 (.int .i64 k') (.int .i64 n') (.string s')
  obtain ⟨r0, r1, r2, _, _, _⟩ := R'.out
  refine bodyPost_ret (by simp [results, Tryz.results81, go_sem, r0, r1, r2]; try rfl) rfl ?_
  exact ⟨rfl, B'⟩
end Go.Proofs.YtblkhlhhlalbkaaGreatDoor
namespace Go.Proofs.YtblkhlhhlalbkaaGreatDoor
open Go.RowKit Go.Lib Go.Sort
set_option linter.unusedVariables false
set_option maxRecDepth 20000

/-- Is there a value, the first standing at place i, that does not go there? -/
def badFrom (f : Int) : Nat → List Val → Bool
  | _, [] => false
  | i, v :: l => badV f i v || badFrom f (i + 1) l
theorem badFrom_iff (f : Int) : ∀ (l : List Val) (i : Nat), badFrom f i l = true ↔ ∃ j, ∃ h : j < l.length, badV f (i + j) l[j] = true
  | [], i => by simp [badFrom]
  | v :: l, i => by
    have ih := badFrom_iff f l (i + 1)
    simp only [badFrom, Bool.or_eq_true, ih]
    constructor
    · rintro (h | ⟨j, h, hb⟩)
      · exact ⟨0, by simp, h⟩
      · exact ⟨j + 1, by simpa using h, by rw [show i + (j + 1) = i + 1 + j by omega]; exact hb⟩
    · rintro ⟨j, h, hb⟩
      match j, h, hb with
      | 0, _, hb => exact Or.inl hb
      | j + 1, h, hb => exact Or.inr ⟨j, by simpa using h, by rw [show i + 1 + j = i + (j + 1) by omega]; exact hb⟩

/-- What a function makes of values that it takes. -/
def worthV (f : Int) : List Val → Ans
  | [v] => if f = 1 then ⟨numV v.s.size, 0⟩ else if f = 2 then absV v.n else if f = 3 then ⟨textV (kExV 97 65 v.s), 0⟩ else ⟨textV (kExV 65 97 v.s), 0⟩
  | [v, a, b] => ⟨textV (partV v.s a.n b.n), 0⟩
  | _ => ⟨nullV, 0⟩
def callV (f : Int) (xs : List Val) : Ans :=
  if argsV f = 0 then ⟨nullV, 5⟩ else if (xs.length : Int) ≠ argsV f then ⟨nullV, 37⟩ else if f = 6 then coalV (xs.getD 0 nullV) (xs.getD 1 nullV) else
  if badFrom f 0 xs then ⟨nullV, 35⟩ else if xs.any isNull then ⟨nullV, 0⟩ else worthV f xs

theorem args_cases {f : Int} (h : argsV f ≠ 0) : (f = 1 ∧ argsV f = 1) ∨ (f = 2 ∧ argsV f = 1) ∨ (f = 3 ∧ argsV f = 1) ∨ (f = 4 ∧ argsV f = 1) ∨ (f = 6 ∧ argsV f = 2) ∨ (f = 5 ∧ argsV f = 3) := by
  unfold argsV at *
  by_cases h1 : f = 1 ∨ f = 2 ∨ f = 3 ∨ f = 4
  · rw [if_pos h1] at *; omega
  · rw [if_neg h1] at *
    by_cases h6 : f = 6
    · rw [if_pos h6] at *; omega
    · rw [if_neg h6] at *
      by_cases h5 : f = 5
      · rw [if_pos h5] at *; omega
      · rw [if_neg h5] at h; omega
theorem len_one {xs : List Val} (h : (xs.length : Int) = 1) : ∃ v, xs = [v] := by
  match xs, h with
  | [v], _ => exact ⟨v, rfl⟩
  | [], h => simp at h
  | _ :: _ :: _, h => simp at h; omega
theorem len_two {xs : List Val} (h : (xs.length : Int) = 2) : ∃ a b, xs = [a, b] := by
  match xs, h with
  | [a, b], _ => exact ⟨a, b, rfl⟩
  | [], h => simp at h
  | [_], h => simp at h
  | _ :: _ :: _ :: _, h => simp at h; omega
theorem len_three {xs : List Val} (h : (xs.length : Int) = 3) : ∃ a b c, xs = [a, b, c] := by
  match xs, h with
  | [a, b, c], _ => exact ⟨a, b, c, rfl⟩
  | [], h => simp at h
  | [_], h => simp at h
  | [_, _], h => simp at h
  | _ :: _ :: _ :: _ :: _, h => simp at h; omega

theorem kCall_any (f : Int) (p : Option Addr) (xs : List Val) (c : Nat) (w : World) (hL : xs.length ≤ maxLen) (rX : Row w p xs) (hn : ∀ v ∈ xs, inR v.n) (hs : ∀ v ∈ xs, v.s.size ≤ 140737488351232) :
    Calls Tryz.prog 81 #[.int .i64 f, .slice p xs.length c] w fun e w' => e = .returned (callV f xs).out ∧ Below w.heap.size w w' := by
  by_cases h0 : argsV f = 0
  · rw [show callV f xs = ⟨nullV, 5⟩ from if_pos h0]
    exact call_kind f p xs c w h0
  by_cases hl : (xs.length : Int) ≠ argsV f
  · rw [show callV f xs = ⟨nullV, 37⟩ by unfold callV; rw [if_neg h0, if_pos hl]]
    exact call_count f p xs c w h0 hl
  have hl' : (xs.length : Int) = argsV f := by omega
  by_cases h6 : f = 6
  · subst h6
    obtain ⟨⟨k1, n1, s1⟩, ⟨k2, n2, s2⟩, rfl⟩ := len_two (hl'.trans rfl)
    exact call_coal p c k1 n1 k2 n2 s1 s2 w rX
  have hc : callV f xs = if badFrom f 0 xs then ⟨nullV, 35⟩ else if xs.any isNull then ⟨nullV, 0⟩ else worthV f xs := by
    unfold callV
    rw [if_neg h0, if_neg hl, if_neg h6]
  have hgood : (∀ j (h : j < xs.length), badV f j xs[j] = false) → badFrom f 0 xs = false := fun hh => by
    cases hb : badFrom f 0 xs
    · rfl
    · obtain ⟨j, h, hb'⟩ := (badFrom_iff f xs 0).1 hb
      rw [Nat.zero_add, hh j h] at hb'
      exact absurd hb' (by decide)
  refine call_main f p xs c (callV f xs) w h0 h6 hl' hL rX ?_ ?_ ?_
  · rintro ⟨j, h, hb⟩
    rw [hc, if_pos ((badFrom_iff f xs 0).2 ⟨j, h, by rw [Nat.zero_add]; exact hb⟩)]
  · intro hh hnull
    rw [hc, hgood hh, if_neg (by decide), if_pos hnull]
  · intro hh hnull
    have hw : callV f xs = worthV f xs := by rw [hc, hgood hh, if_neg (by decide), hnull, if_neg (by decide)]
    rw [hw]
    refine caught_call w.heap.size f p xs c (worthV f xs) ?_
    intro w1 hR1
    rcases args_cases h0 with ⟨rfl, ha⟩ | ⟨rfl, ha⟩ | ⟨rfl, ha⟩ | ⟨rfl, ha⟩ | ⟨rfl, ha⟩ | ⟨rfl, ha⟩
    · obtain ⟨⟨k, n, s⟩, rfl⟩ := len_one (hl'.trans ha)
      exact (worth_length p c k n s w1 hR1).mono (by rintro e w' ⟨rfl, b⟩; exact ⟨Or.inl ⟨rfl, rfl⟩, b⟩)
    · obtain ⟨⟨k, n, s⟩, rfl⟩ := len_one (hl'.trans ha)
      exact worth_abs p c k n s w1 hR1 (hn ⟨k, n, s⟩ (by simp))
    · obtain ⟨⟨k, n, s⟩, rfl⟩ := len_one (hl'.trans ha)
      have := hs ⟨k, n, s⟩ (by simp)
      exact (worth_upper p c k n s w1 hR1 (by unfold maxLen; simp only [] at this; omega)).mono (by rintro e w' ⟨rfl, b⟩; exact ⟨Or.inl ⟨rfl, rfl⟩, b⟩)
    · obtain ⟨⟨k, n, s⟩, rfl⟩ := len_one (hl'.trans ha)
      have := hs ⟨k, n, s⟩ (by simp)
      exact (worth_lower p c k n s w1 hR1 (by unfold maxLen; simp only [] at this; omega)).mono (by rintro e w' ⟨rfl, b⟩; exact ⟨Or.inl ⟨rfl, rfl⟩, b⟩)
    · exact absurd rfl h6
    · obtain ⟨⟨k1, n1, s1⟩, ⟨k2, n2, s2⟩, ⟨k3, n3, s3⟩, rfl⟩ := len_three (hl'.trans ha)
      have := hs ⟨k1, n1, s1⟩ (by simp)
      exact (worth_substr p c k1 n1 k2 n2 k3 n3 s1 s2 s3 w1 hR1 (by simp only [] at this; omega) (hn ⟨k2, n2, s2⟩ (by simp)) (hn ⟨k3, n3, s3⟩ (by simp))).mono (by rintro e w' ⟨rfl, b⟩; exact ⟨Or.inl ⟨rfl, rfl⟩, b⟩)
end Go.Proofs.YtblkhlhhlalbkaaGreatDoor
