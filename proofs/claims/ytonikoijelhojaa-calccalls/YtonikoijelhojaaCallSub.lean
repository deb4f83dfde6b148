/- What calc.Call answers at Substr, and the work that it hands on. Conditions: the numbers are within the numbers, the text is at most 2^62 bytes. -/
import Derived.Test.YtonikoijelhojaaCallMain
import Derived.Test.YtonikoijelhojaaWorthSub
namespace Go.Proofs.Ytonikoijelhojaa
open Go.RowKit Go.Lib Go.Sort
set_option linter.unusedVariables false

theorem enters_call1 (args : Array Value) (w : World) : (callFunc 47 args).run Try.prog w = .ok (.enter 47 args) w := by
  first | (simp [go_sem]; done) | kernel_rfl

/-- The ending of worth: its value, or what it threw. -/
def endW (x : Ans) (e : Ending) : Prop := (e = .returned (.agg #[.int .i64 x.v.k, .int .i64 x.v.n, .string x.v.s]) ∧ x.e = 0) ∨ (e = .panicked thrown ∧ x.v = nullV ∧ x.e = 40)

set_option maxHeartbeats 400000 in
theorem call1_any (b : Nat) (f : Int) (p : Option Addr) (xs : List Val) (c : Nat) (x : Ans) (w : World) (hc : CB w b f (.slice p xs.length c)) (hR : Row w p xs)
    (hW : ∀ w1, Row w1 p xs → Calls Try.prog 48 #[.int .i64 f, .slice p xs.length c] w1 fun e w' => endW x e ∧ Below w1.heap.size w1 w') :
    Calls Try.prog 47 #[.pointer (some ⟨b, 0, none⟩), .pointer (some ⟨b + 1, 0, none⟩)] w fun e w' => endA x e ∧ Below w.heap.size w w' := by
  have hB : Below w.heap.size w (w.alloc (.cells #[.int .i64 0, .int .i64 0, .string ⟨#[]⟩] 23)) := (Below.refl _ _).alloc (Nat.le_refl _) _
  obtain ⟨o0, o1, _⟩ := (hc.below hB).out
  have Q := hW _ (hR.below hB)
  clear hc hR hW
  obtain ⟨⟨k', n', s'⟩, er⟩ := x
  go_enter Try.func47, Try.ntmps47
  go_wp2_with fail
  refine Q.mono ?_
  rintro e w1 ⟨he, b1⟩
  obtain ⟨r0, r1, r2, f0, f1, f2⟩ := cells3 b1
  have B1 := below_new b1
  rcases he with ⟨he, rfl⟩ | ⟨rfl, hv, hx⟩
  · obtain rfl : e = .returned (.agg #[.int .i64 k', .int .i64 n', .string s']) := he
    go_wp2
    refine bodyPost_ret (by simp [results, Try.results47, go_sem, r0, r1, r2]; try rfl) rfl ?_
    exact ⟨Or.inl rfl, by go_grown⟩
  · go_wp2
    exact ⟨rfl, Or.inr ⟨rfl, hv, hx⟩, by go_grown⟩

/-- The work of Call, caught. -/
theorem caught_call (b : Nat) (f : Int) (p : Option Addr) (xs : List Val) (c : Nat) (x : Ans)
    (hW : ∀ w1, Row w1 p xs → Calls Try.prog 48 #[.int .i64 f, .slice p xs.length c] w1 fun e w' => endW x e ∧ Below w1.heap.size w1 w') :
    ∀ w1, CB w1 b f (.slice p xs.length c) → Row w1 p xs →
      Calls Try.prog 31 #[.func (.func 47) #[] #[.pointer (some ⟨b, 0, none⟩), .pointer (some ⟨b + 1, 0, none⟩)]] w1 fun e w' => e = .returned x.out ∧ Below w1.heap.size w1 w' :=
  fun w1 hc hR => caught_any 47 _ x _ (enters_call1 _) (fun w0 b0 => call1_any b f p xs c x w0 (hc.below b0) (hR.below b0) hW)

/-- Substr of a Text, an Int, an Int. -/
theorem call_substr (p : Option Addr) (c : Nat) (n1 n2 n3 : Int) (s1 s2 s3 : ByteArray) (w : World) (hR : Row w p [⟨3, n1, s1⟩, ⟨2, n2, s2⟩, ⟨2, n3, s3⟩]) (hs : s1.size ≤ 4611686018427387904) (h2 : inR n2) (h3 : inR n3) :
    Calls Try.prog 16 #[.int .i64 5, .slice p 3 c] w fun e w' => e = .returned (⟨textV (partV s1 n2 n3), 0⟩ : Ans).out ∧ Below w.heap.size w w' := by
  have good : ∀ j (h : j < [(⟨3, n1, s1⟩ : Val), ⟨2, n2, s2⟩, ⟨2, n3, s3⟩].length), badV 5 j [(⟨3, n1, s1⟩ : Val), ⟨2, n2, s2⟩, ⟨2, n3, s3⟩][j] = false := by
    intro j h
    have : j = 0 ∨ j = 1 ∨ j = 2 := by simp at h; omega
    rcases this with rfl | rfl | rfl <;> rfl
  refine call_main 5 p [⟨3, n1, s1⟩, ⟨2, n2, s2⟩, ⟨2, n3, s3⟩] c ⟨textV (partV s1 n2 n3), 0⟩ w (by decide) (by decide) rfl (by unfold maxLen; simp) hR ?_ ?_ ?_
  · rintro ⟨j, h, hb⟩
    rw [good j h] at hb
    exact absurd hb (by decide)
  · intro _ hn
    exact absurd hn (by simp [isNull])
  · intro _ _
    exact caught_call w.heap.size 5 p _ c ⟨textV (partV s1 n2 n3), 0⟩ (fun w1 hR1 => (worth_substr p c 3 n1 2 n2 2 n3 s1 s2 s3 w1 hR1 hs h2 h3).mono (by rintro e w' ⟨rfl, b⟩; exact ⟨Or.inl ⟨rfl, rfl⟩, b⟩))
end Go.Proofs.Ytonikoijelhojaa
