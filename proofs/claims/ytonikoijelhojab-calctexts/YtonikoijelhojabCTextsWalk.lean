/- The law CalcTexts returns true and writes nothing that was there. Conditions: the texts together are at most 2^62 bytes. -/
import Derived.Test.YtonikoijelhojabTextLaws
import Derived.Test.YtonikoijelhojabCalcWorks
import Derived.Test.YtonikoijelhojabBoxMore
import Derived.Deep.CutRange
import Derived.Deep.RegionHeld3
namespace Go.Proofs.Ytonikoijelhojab
open Go.RowKit Go.Lib Go.Sort
set_option linter.unusedVariables false

theorem ltext_any (s : ByteArray) (w : World) :
    Calls Try.prog 7 #[.string s] w fun e w' => e = .returned (.agg #[.int .i64 3, .int .i64 0, .string s]) ∧ Below w.heap.size w w' := by
  go_enter Try.func7, Try.ntmps7
  go_wp2
  go_returns
  exact ⟨rfl, by go_grown⟩

theorem ltext_grown (s : ByteArray) (U : World) : Hid (∀ d os, Calls Try.prog 7 #[.string s] (grow (redrawn U d) os) fun e w'' => e = .returned (.agg #[.int .i64 3, .int .i64 0, .string s]) ∧ ∃ p : Regrown, w'' = grow (redrawn U p.d) p.os) :=
  fun d os => Calls.regrown_of (ltext_any s _)
theorem lnum_grown (n : Int) (U : World) : Hid (∀ d os, Calls Try.prog 9 #[.int .i64 n] (grow (redrawn U d) os) fun e w'' => e = .returned (.agg #[.int .i64 2, .int .i64 n, .string ⟨#[]⟩]) ∧ ∃ p : Regrown, w'' = grow (redrawn U p.d) p.os) :=
  fun d os => Calls.regrown_of (num_any n _)

theorem below_two {b : Nat} {w wn wm : World} {o1 o2 : Obj} (B : Below b w wn) (h : b ≤ wn.heap.size) (bn : Below ((wn.alloc o1).alloc o2).heap.size ((wn.alloc o1).alloc o2) wm) : Below b w wm :=
  ((B.alloc h o1).alloc (Nat.le_trans h (by simp)) o2).trans (bn.mono (by simp; omega))
theorem box_after (w : World) (o : Obj) (k n : Int) (s : ByteArray) (t : TypeId) : Box ((w.alloc o).alloc (.cells #[.int .i64 k, .int .i64 n, .string s] t)) (w.heap.size + 1) ⟨k, n, s⟩ := Box.at (by simp) k n s t

theorem Box.three {w : World} {b : Nat} {k n : Int} {s : ByteArray} (h : Box w b ⟨k, n, s⟩) : w.cell? ⟨b, 0, none⟩ = some (.int .i64 k) ∧ w.cell? ⟨b, 1, none⟩ = some (.int .i64 n) ∧ w.cell? ⟨b, 2, none⟩ = some (.string s) := ⟨h.1, h.2.1, h.2.2.1⟩

theorem ne_up {a b : Nat} (h : a < b) : b + 1 ≠ a := by omega
theorem ne_lo {a b : Nat} (h : a < b) : b ≠ a := by omega
theorem le_up {a b : Nat} (h : a ≤ b) : a ≤ b + 1 := by omega

theorem rowOf1 (w : World) (k1 n1 : Int) (s1 : ByteArray) (t : TypeId) : Row (w.alloc (.cells #[.int .i64 k1, .int .i64 n1, .string s1] t)) (some ⟨w.heap.size, 0, none⟩) [⟨k1, n1, s1⟩] := by
  refine Or.inr ⟨_, _, rfl, fun i hi => ?_⟩
  obtain rfl : i = 0 := by simp at hi; omega
  refine ⟨?_, ?_, ?_⟩ <;> go_simp

theorem cat_any (a b : ByteArray) (k : Int) (s : ByteArray) (e : Int) (h : joinV a b = ⟨⟨k, 0, s⟩, e⟩) (hl : a.size + b.size ≤ maxLen) (w : World) :
    Calls Try.prog 6 #[.int .i64 16, .agg #[.int .i64 3, .int .i64 0, .string a], .agg #[.int .i64 3, .int .i64 0, .string b]] w fun x w' => x = .returned (.tuple #[.agg #[.int .i64 k, .int .i64 0, .string s], .int .i64 e]) ∧ Below w.heap.size w w' := by
  have := binary_any 16 ⟨3, 0, a⟩ ⟨3, 0, b⟩ w (by show inR 0; decide) (by show inR 0; decide) hl
  rw [show binV 16 ⟨3, 0, a⟩ ⟨3, 0, b⟩ = joinV a b from rfl, h] at this
  exact this

theorem len_any (s : ByteArray) (w : World) :
    Calls Try.prog 8 #[.int .i64 1, .slice (some ⟨w.heap.size, 0, none⟩) 1 1] (w.alloc (.cells #[.int .i64 3, .int .i64 0, .string s] 24)) fun x w' => x = .returned (.tuple #[.agg #[.int .i64 2, .int .i64 s.size, .string ⟨#[]⟩], .int .i64 0]) ∧ Below (w.alloc (.cells #[.int .i64 3, .int .i64 0, .string s] 24)).heap.size (w.alloc (.cells #[.int .i64 3, .int .i64 0, .string s] 24)) w' :=
  call_one 1 _ 1 ⟨3, 0, s⟩ ⟨numV s.size, 0⟩ _ rfl (by decide) (by simp) rfl (rowOf1 w 3 0 s _) (fun w1 hR => (worth_length _ 1 3 0 s w1 hR).mono (by rintro e w' ⟨rfl, b⟩; exact ⟨Or.inl ⟨rfl, rfl⟩, b⟩))
theorem up_any (s : ByteArray) (hs : s.size ≤ maxLen) (w : World) :
    Calls Try.prog 8 #[.int .i64 3, .slice (some ⟨w.heap.size, 0, none⟩) 1 1] (w.alloc (.cells #[.int .i64 3, .int .i64 0, .string s] 24)) fun x w' => x = .returned (.tuple #[.agg #[.int .i64 3, .int .i64 0, .string (exV 97 65 s)], .int .i64 0]) ∧ Below (w.alloc (.cells #[.int .i64 3, .int .i64 0, .string s] 24)).heap.size (w.alloc (.cells #[.int .i64 3, .int .i64 0, .string s] 24)) w' :=
  call_one 3 _ 1 ⟨3, 0, s⟩ ⟨textV (exV 97 65 s), 0⟩ _ rfl (by decide) (by simp) rfl (rowOf1 w 3 0 s _) (fun w1 hR => (worth_upper _ 1 3 0 s w1 hR hs).mono (by rintro e w' ⟨rfl, b⟩; exact ⟨Or.inl ⟨rfl, rfl⟩, b⟩))
theorem low_any (s : ByteArray) (hs : s.size ≤ maxLen) (w : World) :
    Calls Try.prog 8 #[.int .i64 4, .slice (some ⟨w.heap.size, 0, none⟩) 1 1] (w.alloc (.cells #[.int .i64 3, .int .i64 0, .string s] 24)) fun x w' => x = .returned (.tuple #[.agg #[.int .i64 3, .int .i64 0, .string (exV 65 97 s)], .int .i64 0]) ∧ Below (w.alloc (.cells #[.int .i64 3, .int .i64 0, .string s] 24)).heap.size (w.alloc (.cells #[.int .i64 3, .int .i64 0, .string s] 24)) w' :=
  call_one 4 _ 1 ⟨3, 0, s⟩ ⟨textV (exV 65 97 s), 0⟩ _ rfl (by decide) (by simp) rfl (rowOf1 w 3 0 s _) (fun w1 hR => (worth_lower _ 1 3 0 s w1 hR hs).mono (by rintro e w' ⟨rfl, b⟩; exact ⟨Or.inl ⟨rfl, rfl⟩, b⟩))
theorem sub_any (s t : ByteArray) (p n : Int) (h : partV s p n = t) (hs : s.size ≤ 4611686018427387904) (hp : inR p) (hn : inR n) (w : World) :
    Calls Try.prog 8 #[.int .i64 5, .slice (some ⟨w.heap.size, 0, none⟩) 3 3] (w.alloc (.cells #[.int .i64 3, .int .i64 0, .string s, .int .i64 2, .int .i64 p, .string ⟨#[]⟩, .int .i64 2, .int .i64 n, .string ⟨#[]⟩] 24)) fun x w' => x = .returned (.tuple #[.agg #[.int .i64 3, .int .i64 0, .string t], .int .i64 0]) ∧ Below (w.alloc (.cells #[.int .i64 3, .int .i64 0, .string s, .int .i64 2, .int .i64 p, .string ⟨#[]⟩, .int .i64 2, .int .i64 n, .string ⟨#[]⟩] 24)).heap.size (w.alloc (.cells #[.int .i64 3, .int .i64 0, .string s, .int .i64 2, .int .i64 p, .string ⟨#[]⟩, .int .i64 2, .int .i64 n, .string ⟨#[]⟩] 24)) w' := by
  subst h
  exact call_substr (some ⟨w.heap.size, 0, none⟩) 3 0 p n s ⟨#[]⟩ ⟨#[]⟩ _ (rowOf3 w 3 0 2 p 2 n s ⟨#[]⟩ ⟨#[]⟩ _) hs hp hn

theorem sub_two (s t : ByteArray) (p n : Int) (h : partV s p n = t) (hs : s.size ≤ 4611686018427387904) (hp : inR p) (hn : inR n) (w : World) (o : Obj) :
    Calls Try.prog 8 #[.int .i64 5, .slice (some ⟨w.heap.size, 0, none⟩) 3 3] ((w.alloc (.cells #[.int .i64 3, .int .i64 0, .string s, .int .i64 2, .int .i64 p, .string ⟨#[]⟩, .int .i64 2, .int .i64 n, .string ⟨#[]⟩] 24)).alloc o) fun x w' => x = .returned (.tuple #[.agg #[.int .i64 3, .int .i64 0, .string t], .int .i64 0]) ∧ Below ((w.alloc (.cells #[.int .i64 3, .int .i64 0, .string s, .int .i64 2, .int .i64 p, .string ⟨#[]⟩, .int .i64 2, .int .i64 n, .string ⟨#[]⟩] 24)).alloc o).heap.size ((w.alloc (.cells #[.int .i64 3, .int .i64 0, .string s, .int .i64 2, .int .i64 p, .string ⟨#[]⟩, .int .i64 2, .int .i64 n, .string ⟨#[]⟩] 24)).alloc o) w' := by
  subst h
  exact call_substr (some ⟨w.heap.size, 0, none⟩) 3 0 p n s ⟨#[]⟩ ⟨#[]⟩ _ ((rowOf3 w 3 0 2 p 2 n s ⟨#[]⟩ ⟨#[]⟩ _).below ((Below.refl _ _).alloc (Nat.le_refl _) o)) hs hp hn

theorem sub_post (s t : ByteArray) (p n : Int) (h : partV s p n = t) (hs : s.size ≤ 4611686018427387904) (hp : inR p) (hn : inR n) (w : World) (o : Obj) :
    Calls Try.prog 8 #[.int .i64 5, .slice (some ⟨w.heap.size + 1, 0, none⟩) 3 3] ((w.alloc o).alloc (.cells #[.int .i64 3, .int .i64 0, .string s, .int .i64 2, .int .i64 p, .string ⟨#[]⟩, .int .i64 2, .int .i64 n, .string ⟨#[]⟩] 24)) fun x w' => x = .returned (.tuple #[.agg #[.int .i64 3, .int .i64 0, .string t], .int .i64 0]) ∧ Below ((w.alloc o).alloc (.cells #[.int .i64 3, .int .i64 0, .string s, .int .i64 2, .int .i64 p, .string ⟨#[]⟩, .int .i64 2, .int .i64 n, .string ⟨#[]⟩] 24)).heap.size ((w.alloc o).alloc (.cells #[.int .i64 3, .int .i64 0, .string s, .int .i64 2, .int .i64 p, .string ⟨#[]⟩, .int .i64 2, .int .i64 n, .string ⟨#[]⟩] 24)) w' := by
  have := sub_any s t p n h hs hp hn (w.alloc o)
  rw [show (w.alloc o).heap.size = w.heap.size + 1 by simp] at this
  exact this


set_option maxRecDepth 100000 in
set_option maxHeartbeats 4000000 in
theorem ctexts_long (a b : ByteArray) (w : World) (hl : a.size + b.size ≤ maxLen) (hg : 2048 < a.size + b.size) :
    Calls Try.prog 3 #[.string a, .string b] w fun e w' => e = .returned (.bool true) ∧ Below w.heap.size w w' := by
  have CB := fun w => cat_any a b 0 ⟨#[]⟩ 8 (if_pos hg) hl w
  have B := Below.refl w.heap.size w
  unfold maxLen at hl
  by_cases h1 : 2048 < a.size
  all_goals
    go_enter Try.func3, Try.ntmps3
    go_wp2_with (first | (go_at_call 5; with_reducible refine (works_any _).mono ?_; rintro e wn ⟨rfl, bn⟩; (with_reducible first | replace B := B.trans (bn.mono B.size) | replace B := B.drew.trans (bn.mono B.drew.size) | replace B := B.trans ((below_new bn).mono B.size) | replace B := B.trans ((below_newd bn).mono B.size) | replace B := below_two B B.size bn)) | (go_at_call 7; with_reducible refine (ltext_any _ _).mono ?_; rintro e wn ⟨rfl, bn⟩; (with_reducible first | replace B := B.trans (bn.mono B.size) | replace B := B.drew.trans (bn.mono B.drew.size) | replace B := B.trans ((below_new bn).mono B.size) | replace B := B.trans ((below_newd bn).mono B.size) | replace B := below_two B B.size bn)) | (go_at_call 6; with_reducible refine (CB _).mono ?_; rintro e wn ⟨rfl, bn⟩; (with_reducible first | replace B := B.trans (bn.mono B.size) | replace B := B.drew.trans (bn.mono B.drew.size) | replace B := B.trans ((below_new bn).mono B.size) | replace B := B.trans ((below_newd bn).mono B.size) | replace B := below_two B B.size bn)) | fail)
    go_ret
    exact ⟨ret_bool (by simp <;> omega), B.alloc B.size _⟩


set_option maxRecDepth 100000 in
set_option maxHeartbeats 16000000 in
theorem ctexts_short (a b : ByteArray) (w : World) (hg : ¬ 2048 < a.size + b.size) :
    Calls Try.prog 3 #[.string a, .string b] w fun e w' => e = .returned (.bool true) ∧ Below w.heap.size w w' := by
  have CB := fun w => cat_any a b 3 (a ++ b) 0 (if_neg hg) (by unfold maxLen; omega) w
  have xs : (a ++ b).size = a.size + b.size := ByteArray.size_append
  have CN := fun w => len_any (a ++ b) w
  have CP := fun w => sub_any (a ++ b) a 1 a.size (part_first a b) (by rw [xs]; omega) (by decide) (by constructor <;> omega) w
  have CQ := fun w => sub_any (a ++ b) b ((a.size : Int) + 1) 1099511627776 (part_second a b (by omega)) (by rw [xs]; omega) (by constructor <;> omega) (by decide) w
  have CP2 := fun w o => sub_two (a ++ b) a 1 a.size (part_first a b) (by rw [xs]; omega) (by decide) (by constructor <;> omega) w o
  have CP3 := fun w o => sub_post (a ++ b) a 1 a.size (part_first a b) (by rw [xs]; omega) (by decide) (by constructor <;> omega) w o
  have CQ3 := fun w o => sub_post (a ++ b) b ((a.size : Int) + 1) 1099511627776 (part_second a b (by omega)) (by rw [xs]; omega) (by constructor <;> omega) (by decide) w o
  have CQ2 := fun w o => sub_two (a ++ b) b ((a.size : Int) + 1) 1099511627776 (part_second a b (by omega)) (by rw [xs]; omega) (by constructor <;> omega) (by decide) w o
  have CU := fun w => up_any a (by unfold maxLen; omega) w
  have CL := fun w => low_any a (by unfold maxLen; omega) w
  have CV := fun w => up_any (exV 65 97 a) (by rw [exV_size]; unfold maxLen; omega) w
  rw [up_low] at CV
  rw [xs, Int.natCast_add] at CN
  have ha : a.size ≤ 2048 := by omega
  have hb : b.size ≤ 2048 := by omega
  have hwr : IntKind.i64.wrap ((a.size : Int) + 1) = (a.size : Int) + 1 := by rw [IntKind.wrap_i64]; omega
  generalize a ++ b = x at *
  generalize exV 65 97 a = la at *
  generalize exV 97 65 a = ua at *
  clear xs hg
  have he := run_eqv
  have B := Below.refl w.heap.size w
  go_enter Try.func3, Try.ntmps3
  go_upto_region 6 with (first | (go_at_call 5; with_reducible refine (works_any _).mono ?_; rintro e wn ⟨rfl, bn⟩; (with_reducible first | replace B := B.trans (bn.mono B.size) | replace B := B.drew.trans (bn.mono B.drew.size) | replace B := B.trans ((below_new bn).mono B.size) | replace B := B.trans ((below_newd bn).mono B.size) | replace B := below_two B B.size bn)) | (go_at_call 7; with_reducible refine (ltext_any _ _).mono ?_; rintro e wn ⟨rfl, bn⟩; (with_reducible first | replace B := B.trans (bn.mono B.size) | replace B := B.drew.trans (bn.mono B.drew.size) | replace B := B.trans ((below_new bn).mono B.size) | replace B := B.trans ((below_newd bn).mono B.size) | replace B := below_two B B.size bn)) | (go_at_call 6; with_reducible refine (CB _).mono ?_; rintro e wn ⟨rfl, bn⟩; (with_reducible first | replace B := B.trans (bn.mono B.size) | replace B := B.drew.trans (bn.mono B.drew.size) | replace B := B.trans ((below_new bn).mono B.size) | replace B := B.trans ((below_newd bn).mono B.size) | replace B := below_two B B.size bn)) | fail)
  have X := Box.new wn 3 0 x 24
  replace B : Below w.heap.size w (wn.alloc (.cells #[.int .i64 3, .int .i64 0, .string x] 24)) := B.alloc B.size _
  generalize wn.alloc (.cells #[.int .i64 3, .int .i64 0, .string x] 24) = W0 at *
  generalize wn.heap.size = xb at *
  clear bn
  clear CB
  obtain ⟨x0, x1, x2, xl⟩ := X.get
  go_upto_region 7 with (first | (go_at_call 8; with_reducible refine (CN _).mono ?_; rintro e wn ⟨rfl, bn⟩; (with_reducible first | replace B := B.trans (bn.mono B.size) | replace B := B.drew.trans (bn.mono B.drew.size) | replace B := B.trans ((below_new bn).mono B.size) | replace B := B.trans ((below_newd bn).mono B.size) | replace B := below_two B B.size bn); (with_reducible first | replace X := X.below bn | replace X := X.drew.below bn | replace X := (X.alloc _).below bn | replace X := (X.alloc _).drew.below bn | replace X := ((X.alloc _).alloc _).below bn)) | fail)
  have N := Box.new wn 2 ((a.size : Int) + b.size) ⟨#[]⟩ 24
  replace X := X.alloc (.cells #[.int .i64 2, .int .i64 ((a.size : Int) + b.size), .string ⟨#[]⟩] 24)
  replace B : Below w.heap.size w (wn.alloc (.cells #[.int .i64 2, .int .i64 ((a.size : Int) + b.size), .string ⟨#[]⟩] 24)) := B.alloc B.size _
  generalize wn.alloc (.cells #[.int .i64 2, .int .i64 ((a.size : Int) + b.size), .string ⟨#[]⟩] 24) = W1 at *
  generalize wn.heap.size = nb at *
  clear bn
  clear CN x0 x1 x2 xl
  obtain ⟨x0, x1, x2, xl⟩ := X.get
  go_cut [9, 10] from 52 to 61 (fun s1 s2 wx => ∃ bp : Nat, s1 = .pointer (some ⟨bp, 0, none⟩) ∧ s2 = .int .i64 0 ∧ Box wx bp ⟨3, 0, a⟩ ∧ Box wx xb ⟨3, 0, x⟩ ∧ Box wx nb ⟨2, (a.size : Int) + b.size, ⟨#[]⟩⟩ ∧ Below w.heap.size w wx)
  case first =>
    go_region_held3 (fun w' => w'.cell? ⟨xb, 0, none⟩ = some (.int .i64 3) ∧ w'.cell? ⟨xb, 1, none⟩ = some (.int .i64 0) ∧ w'.cell? ⟨xb, 2, none⟩ = some (.string x)) (with_reducible first | exact X.three | exact X.drew.three | exact (X.alloc _).three | exact (X.drew.alloc _).three | exact (X.alloc _).drew.three | exact ((X.alloc _).alloc _).three | exact (X.put3 (ne_lo zlX) _ _ _).three | exact (X.put3 (ne_up zlX) _ _ _).three) (first | (go_at_call 9; with_reducible refine (num_any _ _).mono ?_; rintro e wn ⟨rfl, bn⟩; (with_reducible first | replace Z := Z.below bn | replace Z := Z.drew.below bn | replace Z := (Z.alloc _).below bn | replace Z := (Z.alloc _).drew.below bn | (have Z := (box_after _ _ 0 0 ⟨#[]⟩ 24).below bn; have zs := B.size; have zlX := X.get.2.2.2; have zlN := N.get.2.2.2) | (have Z := ((Box.new _ 0 0 ⟨#[]⟩ 24).alloc _).below bn; have zs := B.size; have zlX := X.get.2.2.2; have zlN := N.get.2.2.2) | (have Z := (Box.new _ 0 0 ⟨#[]⟩ 24).below bn; have zs := B.size; have zlX := X.get.2.2.2; have zlN := N.get.2.2.2) | (have Z := (Box.new _ 0 0 ⟨#[]⟩ 24).drew.below bn; have zs := B.size; have zlX := X.get.2.2.2; have zlN := N.get.2.2.2) | skip); (first | (obtain ⟨z0, z1, z2, zf0, zf1, zf2⟩ := Z.out) | skip); (with_reducible first | replace B := B.trans (bn.mono B.size) | replace B := B.drew.trans (bn.mono B.drew.size) | replace B := B.trans ((below_new bn).mono B.size) | replace B := B.trans ((below_newd bn).mono B.size) | replace B := below_two B B.size bn); (with_reducible first | replace X := X.below bn | replace X := X.drew.below bn | replace X := (X.alloc _).below bn | replace X := (X.alloc _).drew.below bn | replace X := ((X.alloc _).alloc _).below bn); (with_reducible first | replace N := N.below bn | replace N := N.drew.below bn | replace N := (N.alloc _).below bn | replace N := (N.alloc _).drew.below bn | replace N := ((N.alloc _).alloc _).below bn); (have x0 := X.get.1; have x1 := X.get.2.1; have x2 := X.get.2.2.1; have xl := X.get.2.2.2)) | (go_at_call 8; with_reducible refine (CP _).mono ?_; rintro e wn ⟨rfl, bn⟩; (with_reducible first | replace Z := Z.below bn | replace Z := Z.drew.below bn | replace Z := (Z.alloc _).below bn | replace Z := (Z.alloc _).drew.below bn | (have Z := (box_after _ _ 0 0 ⟨#[]⟩ 24).below bn; have zs := B.size; have zlX := X.get.2.2.2; have zlN := N.get.2.2.2) | (have Z := ((Box.new _ 0 0 ⟨#[]⟩ 24).alloc _).below bn; have zs := B.size; have zlX := X.get.2.2.2; have zlN := N.get.2.2.2) | (have Z := (Box.new _ 0 0 ⟨#[]⟩ 24).below bn; have zs := B.size; have zlX := X.get.2.2.2; have zlN := N.get.2.2.2) | (have Z := (Box.new _ 0 0 ⟨#[]⟩ 24).drew.below bn; have zs := B.size; have zlX := X.get.2.2.2; have zlN := N.get.2.2.2) | skip); (first | (obtain ⟨z0, z1, z2, zf0, zf1, zf2⟩ := Z.out) | skip); (with_reducible first | replace B := B.trans (bn.mono B.size) | replace B := B.drew.trans (bn.mono B.drew.size) | replace B := B.trans ((below_new bn).mono B.size) | replace B := B.trans ((below_newd bn).mono B.size) | replace B := below_two B B.size bn); (with_reducible first | replace X := X.below bn | replace X := X.drew.below bn | replace X := (X.alloc _).below bn | replace X := (X.alloc _).drew.below bn | replace X := ((X.alloc _).alloc _).below bn); (with_reducible first | replace N := N.below bn | replace N := N.drew.below bn | replace N := (N.alloc _).below bn | replace N := (N.alloc _).drew.below bn | replace N := ((N.alloc _).alloc _).below bn)) | (go_at_call 8; with_reducible refine (CP2 _ _).mono ?_; rintro e wn ⟨rfl, bn⟩; (with_reducible first | replace Z := Z.below bn | replace Z := Z.drew.below bn | replace Z := (Z.alloc _).below bn | replace Z := (Z.alloc _).drew.below bn | (have Z := (box_after _ _ 0 0 ⟨#[]⟩ 24).below bn; have zs := B.size; have zlX := X.get.2.2.2; have zlN := N.get.2.2.2) | (have Z := ((Box.new _ 0 0 ⟨#[]⟩ 24).alloc _).below bn; have zs := B.size; have zlX := X.get.2.2.2; have zlN := N.get.2.2.2) | (have Z := (Box.new _ 0 0 ⟨#[]⟩ 24).below bn; have zs := B.size; have zlX := X.get.2.2.2; have zlN := N.get.2.2.2) | (have Z := (Box.new _ 0 0 ⟨#[]⟩ 24).drew.below bn; have zs := B.size; have zlX := X.get.2.2.2; have zlN := N.get.2.2.2) | skip); (first | (obtain ⟨z0, z1, z2, zf0, zf1, zf2⟩ := Z.out) | skip); (with_reducible first | replace B := B.trans (bn.mono B.size) | replace B := B.drew.trans (bn.mono B.drew.size) | replace B := B.trans ((below_new bn).mono B.size) | replace B := B.trans ((below_newd bn).mono B.size) | replace B := below_two B B.size bn); (with_reducible first | replace X := X.below bn | replace X := X.drew.below bn | replace X := (X.alloc _).below bn | replace X := (X.alloc _).drew.below bn | replace X := ((X.alloc _).alloc _).below bn); (with_reducible first | replace N := N.below bn | replace N := N.drew.below bn | replace N := (N.alloc _).below bn | replace N := (N.alloc _).drew.below bn | replace N := ((N.alloc _).alloc _).below bn)) | (go_at_call 8; with_reducible refine (CP3 _ _).mono ?_; rintro e wn ⟨rfl, bn⟩; (with_reducible first | replace Z := Z.below bn | replace Z := Z.drew.below bn | replace Z := (Z.alloc _).below bn | replace Z := (Z.alloc _).drew.below bn | (have Z := (box_after _ _ 0 0 ⟨#[]⟩ 24).below bn; have zs := B.size; have zlX := X.get.2.2.2; have zlN := N.get.2.2.2) | (have Z := ((Box.new _ 0 0 ⟨#[]⟩ 24).alloc _).below bn; have zs := B.size; have zlX := X.get.2.2.2; have zlN := N.get.2.2.2) | (have Z := (Box.new _ 0 0 ⟨#[]⟩ 24).below bn; have zs := B.size; have zlX := X.get.2.2.2; have zlN := N.get.2.2.2) | (have Z := (Box.new _ 0 0 ⟨#[]⟩ 24).drew.below bn; have zs := B.size; have zlX := X.get.2.2.2; have zlN := N.get.2.2.2) | skip); (first | (obtain ⟨z0, z1, z2, zf0, zf1, zf2⟩ := Z.out) | skip); (with_reducible first | replace B := B.trans (bn.mono B.size) | replace B := B.drew.trans (bn.mono B.drew.size) | replace B := B.trans ((below_new bn).mono B.size) | replace B := B.trans ((below_newd bn).mono B.size) | replace B := below_two B B.size bn); (with_reducible first | replace X := X.below bn | replace X := X.drew.below bn | replace X := (X.alloc _).below bn | replace X := (X.alloc _).drew.below bn | replace X := ((X.alloc _).alloc _).below bn); (with_reducible first | replace N := N.below bn | replace N := N.drew.below bn | replace N := (N.alloc _).below bn | replace N := (N.alloc _).drew.below bn | replace N := ((N.alloc _).alloc _).below bn)))
    all_goals
      go_wp2_with fail
      go_meet
      case rel =>
        first
          | exact ⟨_, rfl, rfl, Box.new _ 3 0 a 24, X.alloc _, N.alloc _, B.alloc B.size _⟩
          | exact ⟨_, rfl, rfl, Z.put 3 0 a, X.put3 (ne_lo zlX) _ _ _, N.put3 (ne_lo zlN) _ _ _, below_put3 B zs _ _ _⟩
          | exact ⟨_, rfl, rfl, Z.put 3 0 a, X.put3 (ne_up zlX) _ _ _, N.put3 (ne_up zlN) _ _ _, below_put3 B (le_up zs) _ _ _⟩
  case rest =>
  obtain ⟨pb, rfl, rfl, P, X', N', B'⟩ := hcut
  clear X N B x0 x1 x2 xl CP CP2 CP3
  have X := X'
  have N := N'
  have B := B'
  clear X' N' B'
  obtain ⟨x0, x1, x2, xl⟩ := X.get
  go_upto_region 8 with fail
  go_cut [11, 12] from 62 to 72 (fun s1 s2 wx => ∃ bp : Nat, s1 = .pointer (some ⟨bp, 0, none⟩) ∧ s2 = .int .i64 0 ∧ Box wx bp ⟨3, 0, b⟩ ∧ Box wx xb ⟨3, 0, x⟩ ∧ Box wx nb ⟨2, (a.size : Int) + b.size, ⟨#[]⟩⟩ ∧ Box wx pb ⟨3, 0, a⟩ ∧ Below w.heap.size w wx)
  case first =>
    go_region_held3 (fun w' => w'.cell? ⟨xb, 0, none⟩ = some (.int .i64 3) ∧ w'.cell? ⟨xb, 1, none⟩ = some (.int .i64 0) ∧ w'.cell? ⟨xb, 2, none⟩ = some (.string x)) (with_reducible first | exact X.three | exact X.drew.three | exact (X.alloc _).three | exact (X.drew.alloc _).three | exact (X.alloc _).drew.three | exact ((X.alloc _).alloc _).three | exact (X.put3 (ne_lo zlX) _ _ _).three | exact (X.put3 (ne_up zlX) _ _ _).three) (first | (go_at_call 9; with_reducible refine (num_any _ _).mono ?_; rintro e wn ⟨rfl, bn⟩; (with_reducible first | replace Z := Z.below bn | replace Z := Z.drew.below bn | replace Z := (Z.alloc _).below bn | replace Z := (Z.alloc _).drew.below bn | (have Z := (box_after _ _ 0 0 ⟨#[]⟩ 24).below bn; have zs := B.size; have zlX := X.get.2.2.2; have zlN := N.get.2.2.2; have zlP := P.get.2.2.2) | (have Z := ((Box.new _ 0 0 ⟨#[]⟩ 24).alloc _).below bn; have zs := B.size; have zlX := X.get.2.2.2; have zlN := N.get.2.2.2; have zlP := P.get.2.2.2) | (have Z := (Box.new _ 0 0 ⟨#[]⟩ 24).below bn; have zs := B.size; have zlX := X.get.2.2.2; have zlN := N.get.2.2.2; have zlP := P.get.2.2.2) | (have Z := (Box.new _ 0 0 ⟨#[]⟩ 24).drew.below bn; have zs := B.size; have zlX := X.get.2.2.2; have zlN := N.get.2.2.2; have zlP := P.get.2.2.2) | skip); (first | (obtain ⟨z0, z1, z2, zf0, zf1, zf2⟩ := Z.out) | skip); (with_reducible first | replace B := B.trans (bn.mono B.size) | replace B := B.drew.trans (bn.mono B.drew.size) | replace B := B.trans ((below_new bn).mono B.size) | replace B := B.trans ((below_newd bn).mono B.size) | replace B := below_two B B.size bn); (with_reducible first | replace X := X.below bn | replace X := X.drew.below bn | replace X := (X.alloc _).below bn | replace X := (X.alloc _).drew.below bn | replace X := ((X.alloc _).alloc _).below bn); (with_reducible first | replace N := N.below bn | replace N := N.drew.below bn | replace N := (N.alloc _).below bn | replace N := (N.alloc _).drew.below bn | replace N := ((N.alloc _).alloc _).below bn); (with_reducible first | replace P := P.below bn | replace P := P.drew.below bn | replace P := (P.alloc _).below bn | replace P := (P.alloc _).drew.below bn | replace P := ((P.alloc _).alloc _).below bn); (have x0 := X.get.1; have x1 := X.get.2.1; have x2 := X.get.2.2.1; have xl := X.get.2.2.2)) | (go_at_call 8; with_reducible refine (CQ _).mono ?_; rintro e wn ⟨rfl, bn⟩; (with_reducible first | replace Z := Z.below bn | replace Z := Z.drew.below bn | replace Z := (Z.alloc _).below bn | replace Z := (Z.alloc _).drew.below bn | (have Z := (box_after _ _ 0 0 ⟨#[]⟩ 24).below bn; have zs := B.size; have zlX := X.get.2.2.2; have zlN := N.get.2.2.2; have zlP := P.get.2.2.2) | (have Z := ((Box.new _ 0 0 ⟨#[]⟩ 24).alloc _).below bn; have zs := B.size; have zlX := X.get.2.2.2; have zlN := N.get.2.2.2; have zlP := P.get.2.2.2) | (have Z := (Box.new _ 0 0 ⟨#[]⟩ 24).below bn; have zs := B.size; have zlX := X.get.2.2.2; have zlN := N.get.2.2.2; have zlP := P.get.2.2.2) | (have Z := (Box.new _ 0 0 ⟨#[]⟩ 24).drew.below bn; have zs := B.size; have zlX := X.get.2.2.2; have zlN := N.get.2.2.2; have zlP := P.get.2.2.2) | skip); (first | (obtain ⟨z0, z1, z2, zf0, zf1, zf2⟩ := Z.out) | skip); (with_reducible first | replace B := B.trans (bn.mono B.size) | replace B := B.drew.trans (bn.mono B.drew.size) | replace B := B.trans ((below_new bn).mono B.size) | replace B := B.trans ((below_newd bn).mono B.size) | replace B := below_two B B.size bn); (with_reducible first | replace X := X.below bn | replace X := X.drew.below bn | replace X := (X.alloc _).below bn | replace X := (X.alloc _).drew.below bn | replace X := ((X.alloc _).alloc _).below bn); (with_reducible first | replace N := N.below bn | replace N := N.drew.below bn | replace N := (N.alloc _).below bn | replace N := (N.alloc _).drew.below bn | replace N := ((N.alloc _).alloc _).below bn); (with_reducible first | replace P := P.below bn | replace P := P.drew.below bn | replace P := (P.alloc _).below bn | replace P := (P.alloc _).drew.below bn | replace P := ((P.alloc _).alloc _).below bn)) | (go_at_call 8; with_reducible refine (CQ2 _ _).mono ?_; rintro e wn ⟨rfl, bn⟩; (with_reducible first | replace Z := Z.below bn | replace Z := Z.drew.below bn | replace Z := (Z.alloc _).below bn | replace Z := (Z.alloc _).drew.below bn | (have Z := (box_after _ _ 0 0 ⟨#[]⟩ 24).below bn; have zs := B.size; have zlX := X.get.2.2.2; have zlN := N.get.2.2.2; have zlP := P.get.2.2.2) | (have Z := ((Box.new _ 0 0 ⟨#[]⟩ 24).alloc _).below bn; have zs := B.size; have zlX := X.get.2.2.2; have zlN := N.get.2.2.2; have zlP := P.get.2.2.2) | (have Z := (Box.new _ 0 0 ⟨#[]⟩ 24).below bn; have zs := B.size; have zlX := X.get.2.2.2; have zlN := N.get.2.2.2; have zlP := P.get.2.2.2) | (have Z := (Box.new _ 0 0 ⟨#[]⟩ 24).drew.below bn; have zs := B.size; have zlX := X.get.2.2.2; have zlN := N.get.2.2.2; have zlP := P.get.2.2.2) | skip); (first | (obtain ⟨z0, z1, z2, zf0, zf1, zf2⟩ := Z.out) | skip); (with_reducible first | replace B := B.trans (bn.mono B.size) | replace B := B.drew.trans (bn.mono B.drew.size) | replace B := B.trans ((below_new bn).mono B.size) | replace B := B.trans ((below_newd bn).mono B.size) | replace B := below_two B B.size bn); (with_reducible first | replace X := X.below bn | replace X := X.drew.below bn | replace X := (X.alloc _).below bn | replace X := (X.alloc _).drew.below bn | replace X := ((X.alloc _).alloc _).below bn); (with_reducible first | replace N := N.below bn | replace N := N.drew.below bn | replace N := (N.alloc _).below bn | replace N := (N.alloc _).drew.below bn | replace N := ((N.alloc _).alloc _).below bn); (with_reducible first | replace P := P.below bn | replace P := P.drew.below bn | replace P := (P.alloc _).below bn | replace P := (P.alloc _).drew.below bn | replace P := ((P.alloc _).alloc _).below bn)) | (go_at_call 8; with_reducible refine (CQ3 _ _).mono ?_; rintro e wn ⟨rfl, bn⟩; (with_reducible first | replace Z := Z.below bn | replace Z := Z.drew.below bn | replace Z := (Z.alloc _).below bn | replace Z := (Z.alloc _).drew.below bn | (have Z := (box_after _ _ 0 0 ⟨#[]⟩ 24).below bn; have zs := B.size; have zlX := X.get.2.2.2; have zlN := N.get.2.2.2; have zlP := P.get.2.2.2) | (have Z := ((Box.new _ 0 0 ⟨#[]⟩ 24).alloc _).below bn; have zs := B.size; have zlX := X.get.2.2.2; have zlN := N.get.2.2.2; have zlP := P.get.2.2.2) | (have Z := (Box.new _ 0 0 ⟨#[]⟩ 24).below bn; have zs := B.size; have zlX := X.get.2.2.2; have zlN := N.get.2.2.2; have zlP := P.get.2.2.2) | (have Z := (Box.new _ 0 0 ⟨#[]⟩ 24).drew.below bn; have zs := B.size; have zlX := X.get.2.2.2; have zlN := N.get.2.2.2; have zlP := P.get.2.2.2) | skip); (first | (obtain ⟨z0, z1, z2, zf0, zf1, zf2⟩ := Z.out) | skip); (with_reducible first | replace B := B.trans (bn.mono B.size) | replace B := B.drew.trans (bn.mono B.drew.size) | replace B := B.trans ((below_new bn).mono B.size) | replace B := B.trans ((below_newd bn).mono B.size) | replace B := below_two B B.size bn); (with_reducible first | replace X := X.below bn | replace X := X.drew.below bn | replace X := (X.alloc _).below bn | replace X := (X.alloc _).drew.below bn | replace X := ((X.alloc _).alloc _).below bn); (with_reducible first | replace N := N.below bn | replace N := N.drew.below bn | replace N := (N.alloc _).below bn | replace N := (N.alloc _).drew.below bn | replace N := ((N.alloc _).alloc _).below bn); (with_reducible first | replace P := P.below bn | replace P := P.drew.below bn | replace P := (P.alloc _).below bn | replace P := (P.alloc _).drew.below bn | replace P := ((P.alloc _).alloc _).below bn)))
    all_goals
      go_wp2_with fail
      go_meet
      case rel =>
        first
          | exact ⟨_, rfl, rfl, Box.new _ 3 0 b 24, X.alloc _, N.alloc _, P.alloc _, B.alloc B.size _⟩
          | exact ⟨_, rfl, rfl, Z.put 3 0 b, X.put3 (ne_lo zlX) _ _ _, N.put3 (ne_lo zlN) _ _ _, P.put3 (ne_lo zlP) _ _ _, below_put3 B zs _ _ _⟩
          | exact ⟨_, rfl, rfl, Z.put 3 0 b, X.put3 (ne_up zlX) _ _ _, N.put3 (ne_up zlN) _ _ _, P.put3 (ne_up zlP) _ _ _, below_put3 B (le_up zs) _ _ _⟩
  case rest =>
  obtain ⟨qb, rfl, rfl, Q, X', N', P', B'⟩ := hcut
  clear X N P B x0 x1 x2 xl CQ CQ2 CQ3
  have X := X'
  have N := N'
  have P := P'
  have B := B'
  clear X' N' P' B'
  obtain ⟨x0, x1, x2, xl⟩ := X.get
  clear X x0 x1 x2 xl
  go_upto_region 10 with (first | (go_at_call 7; with_reducible refine (ltext_any _ _).mono ?_; rintro e wn ⟨rfl, bn⟩; (with_reducible first | replace B := B.trans (bn.mono B.size) | replace B := B.drew.trans (bn.mono B.drew.size) | replace B := B.trans ((below_new bn).mono B.size) | replace B := B.trans ((below_newd bn).mono B.size) | replace B := below_two B B.size bn); (with_reducible first | replace N := N.below bn | replace N := N.drew.below bn | replace N := (N.alloc _).below bn | replace N := (N.alloc _).drew.below bn | replace N := ((N.alloc _).alloc _).below bn); (with_reducible first | replace P := P.below bn | replace P := P.drew.below bn | replace P := (P.alloc _).below bn | replace P := (P.alloc _).drew.below bn | replace P := ((P.alloc _).alloc _).below bn); (with_reducible first | replace Q := Q.below bn | replace Q := Q.drew.below bn | replace Q := (Q.alloc _).below bn | replace Q := (Q.alloc _).drew.below bn | replace Q := ((Q.alloc _).alloc _).below bn)) | (go_at_call 8; with_reducible refine (CU _).mono ?_; rintro e wn ⟨rfl, bn⟩; (with_reducible first | replace B := B.trans (bn.mono B.size) | replace B := B.drew.trans (bn.mono B.drew.size) | replace B := B.trans ((below_new bn).mono B.size) | replace B := B.trans ((below_newd bn).mono B.size) | replace B := below_two B B.size bn); (with_reducible first | replace N := N.below bn | replace N := N.drew.below bn | replace N := (N.alloc _).below bn | replace N := (N.alloc _).drew.below bn | replace N := ((N.alloc _).alloc _).below bn); (with_reducible first | replace P := P.below bn | replace P := P.drew.below bn | replace P := (P.alloc _).below bn | replace P := (P.alloc _).drew.below bn | replace P := ((P.alloc _).alloc _).below bn); (with_reducible first | replace Q := Q.below bn | replace Q := Q.drew.below bn | replace Q := (Q.alloc _).below bn | replace Q := (Q.alloc _).drew.below bn | replace Q := ((Q.alloc _).alloc _).below bn)) | fail)
  have U := Box.new wn 3 0 ua 24
  replace N := N.alloc (.cells #[.int .i64 3, .int .i64 0, .string ua] 24)
  replace P := P.alloc (.cells #[.int .i64 3, .int .i64 0, .string ua] 24)
  replace Q := Q.alloc (.cells #[.int .i64 3, .int .i64 0, .string ua] 24)
  replace B : Below w.heap.size w (wn.alloc (.cells #[.int .i64 3, .int .i64 0, .string ua] 24)) := B.alloc B.size _
  generalize wn.alloc (.cells #[.int .i64 3, .int .i64 0, .string ua] 24) = W4 at *
  generalize wn.heap.size = ub at *
  clear bn
  clear CU
  go_upto_region 11 with (first | (go_at_call 7; with_reducible refine (ltext_any _ _).mono ?_; rintro e wn ⟨rfl, bn⟩; (with_reducible first | replace B := B.trans (bn.mono B.size) | replace B := B.drew.trans (bn.mono B.drew.size) | replace B := B.trans ((below_new bn).mono B.size) | replace B := B.trans ((below_newd bn).mono B.size) | replace B := below_two B B.size bn); (with_reducible first | replace N := N.below bn | replace N := N.drew.below bn | replace N := (N.alloc _).below bn | replace N := (N.alloc _).drew.below bn | replace N := ((N.alloc _).alloc _).below bn); (with_reducible first | replace P := P.below bn | replace P := P.drew.below bn | replace P := (P.alloc _).below bn | replace P := (P.alloc _).drew.below bn | replace P := ((P.alloc _).alloc _).below bn); (with_reducible first | replace Q := Q.below bn | replace Q := Q.drew.below bn | replace Q := (Q.alloc _).below bn | replace Q := (Q.alloc _).drew.below bn | replace Q := ((Q.alloc _).alloc _).below bn); (with_reducible first | replace U := U.below bn | replace U := U.drew.below bn | replace U := (U.alloc _).below bn | replace U := (U.alloc _).drew.below bn | replace U := ((U.alloc _).alloc _).below bn)) | (go_at_call 8; with_reducible refine (CL _).mono ?_; rintro e wn ⟨rfl, bn⟩; (with_reducible first | replace B := B.trans (bn.mono B.size) | replace B := B.drew.trans (bn.mono B.drew.size) | replace B := B.trans ((below_new bn).mono B.size) | replace B := B.trans ((below_newd bn).mono B.size) | replace B := below_two B B.size bn); (with_reducible first | replace N := N.below bn | replace N := N.drew.below bn | replace N := (N.alloc _).below bn | replace N := (N.alloc _).drew.below bn | replace N := ((N.alloc _).alloc _).below bn); (with_reducible first | replace P := P.below bn | replace P := P.drew.below bn | replace P := (P.alloc _).below bn | replace P := (P.alloc _).drew.below bn | replace P := ((P.alloc _).alloc _).below bn); (with_reducible first | replace Q := Q.below bn | replace Q := Q.drew.below bn | replace Q := (Q.alloc _).below bn | replace Q := (Q.alloc _).drew.below bn | replace Q := ((Q.alloc _).alloc _).below bn); (with_reducible first | replace U := U.below bn | replace U := U.drew.below bn | replace U := (U.alloc _).below bn | replace U := (U.alloc _).drew.below bn | replace U := ((U.alloc _).alloc _).below bn)) | fail)
  have L := Box.new wn 3 0 la 24
  replace N := N.alloc (.cells #[.int .i64 3, .int .i64 0, .string la] 24)
  replace P := P.alloc (.cells #[.int .i64 3, .int .i64 0, .string la] 24)
  replace Q := Q.alloc (.cells #[.int .i64 3, .int .i64 0, .string la] 24)
  replace U := U.alloc (.cells #[.int .i64 3, .int .i64 0, .string la] 24)
  replace B : Below w.heap.size w (wn.alloc (.cells #[.int .i64 3, .int .i64 0, .string la] 24)) := B.alloc B.size _
  generalize wn.alloc (.cells #[.int .i64 3, .int .i64 0, .string la] 24) = W5 at *
  generalize wn.heap.size = lb at *
  clear bn
  clear CL
  obtain ⟨x0, x1, x2, xl⟩ := L.get
  go_upto_region 12 with (first | (go_at_call 8; with_reducible refine (CV _).mono ?_; rintro e wn ⟨rfl, bn⟩; (with_reducible first | replace B := B.trans (bn.mono B.size) | replace B := B.drew.trans (bn.mono B.drew.size) | replace B := B.trans ((below_new bn).mono B.size) | replace B := B.trans ((below_newd bn).mono B.size) | replace B := below_two B B.size bn); (with_reducible first | replace N := N.below bn | replace N := N.drew.below bn | replace N := (N.alloc _).below bn | replace N := (N.alloc _).drew.below bn | replace N := ((N.alloc _).alloc _).below bn); (with_reducible first | replace P := P.below bn | replace P := P.drew.below bn | replace P := (P.alloc _).below bn | replace P := (P.alloc _).drew.below bn | replace P := ((P.alloc _).alloc _).below bn); (with_reducible first | replace Q := Q.below bn | replace Q := Q.drew.below bn | replace Q := (Q.alloc _).below bn | replace Q := (Q.alloc _).drew.below bn | replace Q := ((Q.alloc _).alloc _).below bn); (with_reducible first | replace U := U.below bn | replace U := U.drew.below bn | replace U := (U.alloc _).below bn | replace U := (U.alloc _).drew.below bn | replace U := ((U.alloc _).alloc _).below bn)) | fail)
  have V := Box.new wn 3 0 ua 24
  replace N := N.alloc (.cells #[.int .i64 3, .int .i64 0, .string ua] 24)
  replace P := P.alloc (.cells #[.int .i64 3, .int .i64 0, .string ua] 24)
  replace Q := Q.alloc (.cells #[.int .i64 3, .int .i64 0, .string ua] 24)
  replace U := U.alloc (.cells #[.int .i64 3, .int .i64 0, .string ua] 24)
  replace B : Below w.heap.size w (wn.alloc (.cells #[.int .i64 3, .int .i64 0, .string ua] 24)) := B.alloc B.size _
  generalize wn.alloc (.cells #[.int .i64 3, .int .i64 0, .string ua] 24) = W6 at *
  generalize wn.heap.size = vb at *
  clear bn
  clear CV x0 x1 x2 xl L
  obtain ⟨n0, n1, n2, _⟩ := N.get
  have n0 := cell_regrown n0
  have n1 := cell_regrown n1
  have n2 := cell_regrown n2
  obtain ⟨p0, p1, p2, _⟩ := P.get
  have p0 := cell_regrown p0
  have p1 := cell_regrown p1
  have p2 := cell_regrown p2
  obtain ⟨q0, q1, q2, _⟩ := Q.get
  have q0 := cell_regrown q0
  have q1 := cell_regrown q1
  have q2 := cell_regrown q2
  obtain ⟨u0, u1, u2, _⟩ := U.get
  have u0 := cell_regrown u0
  have u1 := cell_regrown u1
  have u2 := cell_regrown u2
  obtain ⟨v0, v1, v2, _⟩ := V.get
  have v0 := cell_regrown v0
  have v1 := cell_regrown v1
  have v2 := cell_regrown v2
  have D1 := lnum_grown ((a.size : Int) + b.size) W6
  have D2 := ltext_grown a W6
  have D3 := ltext_grown b W6
  have e1 := eqv_same 2 ((a.size : Int) + b.size) ⟨#[]⟩
  have e2 := eqv_same 3 0 a
  have e3 := eqv_same 3 0 b
  have e4 := eqv_same 3 0 ua
  clear N P Q U V
  refine wp_region_quiet_below (by kernel_rfl) (by kernel_rfl) ?_
  repeat (first | go_big_quiet_step (first | (go_at_call 9; with_reducible exact D1.out _ _) | (go_at_call 7; with_reducible exact D2.out _ _) | (go_at_call 7; with_reducible exact D3.out _ _)) | quiet_step (first | (go_at_call 9; with_reducible exact D1.out _ _) | (go_at_call 7; with_reducible exact D2.out _ _) | (go_at_call 7; with_reducible exact D3.out _ _)))
  refine wpQuiet_nil ?_
  intro _ hw'
  obtain ⟨⟨dq, osq⟩, hw''⟩ := hw'
  subst hw''
  go_wp2
  go_ret
  exact ⟨ret_bool (by simp), B.trans ((below_regrown W6 dq osq).mono B.size)⟩

theorem ctexts_walk (a b : ByteArray) (w : World) (hl : a.size + b.size ≤ maxLen) :
    Calls Try.prog 3 #[.string a, .string b] w fun e w' => e = .returned (.bool true) ∧ Below w.heap.size w w' := by
  by_cases h : 2048 < a.size + b.size
  · exact ctexts_long a b w hl h
  · exact ctexts_short a b w h
end Go.Proofs.Ytonikoijelhojab
