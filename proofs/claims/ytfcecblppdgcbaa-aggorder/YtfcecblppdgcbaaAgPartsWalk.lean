/- The law AggParts returns true and writes nothing that was there. Conditions: the numbers are within the numbers, the texts within the reach. -/
import Derived.Test.YtfcecblppdgcbaaAgNn
import Derived.Deep.CutRange
namespace Go.Proofs.Ytfcecblppdgcbaa
open Go.RowKit Go.Lib Go.Sort
set_option linter.unusedVariables false
set_option maxRecDepth 20000

/-- What is right may be told by the order. -/
theorem right_same {a b : Val} (ra : a.right = true) (rb : b.right = true) (h : cmpV a b = 0) : a = b := by
  obtain ⟨hk, hs⟩ := cmpV_kinds h
  obtain ⟨k, n, ⟨⟨s⟩⟩⟩ := a
  obtain ⟨k2, n2, ⟨⟨s2⟩⟩⟩ := b
  simp only [] at hk
  subst hk
  simp only [Val.right, Bool.or_eq_true, Bool.and_eq_true, beq_iff_eq, List.isEmpty_iff] at ra rb
  simp only [sameKind] at hs
  by_cases h34 : k = 3 ∨ k = 4
  · rw [if_pos h34] at hs
    have := compareBytes_zero _ _ hs
    subst this
    obtain ⟨rfl, rfl⟩ : n = 0 ∧ n2 = 0 := by omega
    rfl
  · rw [if_neg h34] at hs
    obtain ⟨rfl, rfl⟩ : s = [] ∧ s2 = [] := by
      rcases ra with ((h1 | h1) | h1) | h1 <;> rcases rb with ((h2 | h2) | h2) | h2 <;> first | exact ⟨h1.2, h2.2⟩ | omega
    by_cases h12 : k = 1 ∨ k = 2
    · rw [if_pos h12] at hs
      have := cmpI_zero hs
      subst this
      rfl
    · obtain ⟨rfl, rfl⟩ : n = 0 ∧ n2 = 0 := by omega
      rfl
theorem rightV_right {a : Val} (h : rightV a = true) : a.right = true := by
  unfold rightV checkV at h
  by_cases hk : a.k < 0 ∨ 4 < a.k
  · rw [if_pos hk] at h; exact absurd h (by decide)
  · rw [if_neg hk] at h
    by_cases hr : a.right = true
    · exact hr
    · rw [if_neg hr] at h; exact absurd h (by decide)
/-- The least (greatest) of right values is told by its place in the order. -/
theorem best3_is {L : List Val} (hr : ∀ x ∈ L, rightV x = true) {m : Val} (hm : m ∈ L) (h : ∀ x ∈ L, cmpV m x ≤ 0) : bestL 3 L = m := by
  have hL : L ≠ [] := by intro e; rw [e] at hm; cases hm
  have hb := best_or 3 L hL
  have t := cmpV_turn (bestL 3 L) m
  have h1 := best3 hm
  have h2 := h _ hb
  exact right_same (rightV_right (hr _ hb)) (rightV_right (hr _ hm)) (by omega)
theorem best4_is {L : List Val} (hr : ∀ x ∈ L, rightV x = true) {m : Val} (hm : m ∈ L) (h : ∀ x ∈ L, cmpV x m ≤ 0) : bestL 4 L = m := by
  have hL : L ≠ [] := by intro e; rw [e] at hm; cases hm
  have hb := best_or 4 L hL
  have t := cmpV_turn (bestL 4 L) m
  have h1 := best4 hm
  have h2 := h _ hb
  exact right_same (rightV_right (hr _ hb)) (rightV_right (hr _ hm)) (by omega)
/-- The best of two lists as one. -/
def pick2 (op : Int) (u v : Val) : Val := if u.k = 0 ∨ (v.k ≠ 0 ∧ ((op = 3 ∧ 0 < cmpV u v) ∨ (op = 4 ∧ cmpV u v < 0))) then v else u
theorem best_parts {op : Int} (h3 : op = 3 ∨ op = 4) {A B : List Val} (hA : ∀ x ∈ A, rightV x = true ∧ x.k ≠ 0) (hB : ∀ x ∈ B, rightV x = true ∧ x.k ≠ 0) : gatV op (A ++ B) = pick2 op (gatV op A) (gatV op B) := by
  have o1 : op ≠ 1 := by omega
  have o2 : op ≠ 2 := by omega
  have hN : gatV op [] = nullV := by unfold gatV; rw [if_neg o1, if_pos rfl]
  by_cases eA : A = []
  · subst eA
    rw [hN, List.nil_append]
    unfold pick2
    simp [nullV]
  by_cases eB : B = []
  · subst eB
    have hk := (hA _ (best_or op A eA)).2
    rw [hN, List.append_nil, gat_best o1 o2 eA]
    unfold pick2
    rw [if_neg (by intro h; rcases h with h | h; exact hk h; exact h.1 rfl)]
  have eAB : A ++ B ≠ [] := by simp [eA]
  rw [gat_best o1 o2 eAB, gat_best o1 o2 eA, gat_best o1 o2 eB]
  have hAm := best_or op A eA
  have hBm := best_or op B eB
  have ka := (hA _ hAm).2
  have kb := (hB _ hBm).2
  have hr : ∀ x ∈ A ++ B, rightV x = true := fun x hx => by
    rcases List.mem_append.1 hx with h | h
    · exact (hA x h).1
    · exact (hB x h).1
  unfold pick2
  rcases h3 with rfl | rfl
  · have t := cmpV_turn (bestL 3 A) (bestL 3 B)
    by_cases hc : 0 < cmpV (bestL 3 A) (bestL 3 B)
    · rw [if_pos (Or.inr ⟨kb, Or.inl ⟨rfl, hc⟩⟩)]
      refine best3_is hr (List.mem_append_right _ hBm) fun x hx => ?_
      rcases List.mem_append.1 hx with h | h
      · exact le_trans' (by omega) (best3 h)
      · exact best3 h
    · rw [if_neg (by intro h; rcases h with h | ⟨_, h | h⟩; exact ka h; exact hc h.2; exact absurd h.1 (by decide))]
      refine best3_is hr (List.mem_append_left _ hAm) fun x hx => ?_
      rcases List.mem_append.1 hx with h | h
      · exact best3 h
      · exact le_trans' (by omega) (best3 h)
  · have t := cmpV_turn (bestL 4 A) (bestL 4 B)
    by_cases hc : cmpV (bestL 4 A) (bestL 4 B) < 0
    · rw [if_pos (Or.inr ⟨kb, Or.inr ⟨rfl, hc⟩⟩)]
      refine best4_is hr (List.mem_append_right _ hBm) fun x hx => ?_
      rcases List.mem_append.1 hx with h | h
      · exact le_trans' (best4 h) (by omega)
      · exact best4 h
    · rw [if_neg (by intro h; rcases h with h | ⟨_, h | h⟩; exact ka h; exact absurd h.1 (by decide); exact hc h.2)]
      refine best4_is hr (List.mem_append_left _ hAm) fun x hx => ?_
      rcases List.mem_append.1 hx with h | h
      · exact best4 h
      · exact le_trans' (best4 h) (by omega)
theorem alloc_bel (w : World) (o : Obj) : Below w.heap.size w (w.alloc o) := (Below.refl _ _).alloc (Nat.le_refl _) o
theorem pickU {op : Int} {u v : Val} (h : ¬ (u.k = 0 ∨ (v.k ≠ 0 ∧ ((op = 3 ∧ 0 < cmpV u v) ∨ (op = 4 ∧ cmpV u v < 0))))) : pick2 op u v = u := if_neg h
theorem pickV {op : Int} {u v : Val} (h : u.k = 0 ∨ (v.k ≠ 0 ∧ ((op = 3 ∧ 0 < cmpV u v) ∨ (op = 4 ∧ cmpV u v < 0)))) : pick2 op u v = v := if_pos h
theorem Row.chg {F : Nat → Prop} {w w' : World} {p : Option Addr} {vs : List Val} (h : Row w p vs) (C : Chg F w w') (hn : ∀ b o, p = some ⟨b, o, none⟩ → ¬ F b) : Row w' p vs := by
  rcases h with h | ⟨b, off, hp, hc⟩
  · exact Or.inl h
  · exact Or.inr ⟨b, off, hp, fun i hi => ⟨C.cell (hc i hi).1 (hn _ _ hp), C.cell (hc i hi).2.1 (hn _ _ hp), C.cell (hc i hi).2.2 (hn _ _ hp)⟩⟩
set_option maxHeartbeats 16000000 in
theorem parts_walk (xs ys : List Val) (p1 p2 : Option Addr) (c1 c2 : Nat) (w : World) (hA : xs.length ≤ maxLen) (hB : ys.length ≤ maxLen) (n1 : p1 = none → xs.length = 0 ∧ c1 = 0) (n2 : p2 = none → ys.length = 0 ∧ c2 = 0) (rA : Row w p1 xs) (rB : Row w p2 ys)
    (hi1 : ∀ x ∈ xs, inR x.n) (hi2 : ∀ x ∈ ys, inR x.n) (hy1 : ∀ x ∈ xs, x.s.size ≤ 140737488351232) (hy2 : ∀ x ∈ ys, x.s.size ≤ 140737488351232) :
    Calls Try.prog 6 #[.slice p1 xs.length c1, .slice p2 ys.length c2] w fun e w' => e = .returned (.bool true) ∧ Below w.heap.size w w' := by
  have W := fun w => works_any w
  have R1 := fun w r => right_any xs p1 c1 w hA r
  have R2 := fun w r => right_any ys p2 c2 w hB r
  have HX := hid rA
  have HY := hid rB
  have hneq := run_neqv
  unfold maxLen at hA hB
  cases hr1 : (xs.all rightV && decide (xs.length ≤ 300))
  · rw [hr1] at R1
    clear rA rB hr1 R2
    go_enter Try.func6, Try.ntmps6
    go_wp2_with (first
      | (go_at_call 15; with_reducible refine (W _).mono ?_; rintro e w1 ⟨rfl, b1⟩)
      | (go_at_call 10; with_reducible refine (R1 _ (HX.out.below b1)).mono ?_; rintro e w2 ⟨rfl, b2⟩)
      | fail)
    go_ret
    exact ⟨rfl, below2 b1 b2⟩
  rw [hr1] at R1
  cases hr2 : (ys.all rightV && decide (ys.length ≤ 300))
  · rw [hr2] at R2
    clear rA rB hr1 hr2
    go_enter Try.func6, Try.ntmps6
    go_wp2_with (first
      | (go_at_call 15; with_reducible refine (W _).mono ?_; rintro e w1 ⟨rfl, b1⟩)
      | (go_at_call 10; with_reducible refine (R1 _ (HX.out.below b1)).mono ?_; rintro e w2 ⟨rfl, b2⟩)
      | (go_at_call 10; with_reducible refine (R2 _ (HY.out.below (below2 b1 b2))).mono ?_; rintro e w3 ⟨rfl, b3⟩)
      | fail)
    go_ret
    exact ⟨rfl, below2 (below2 b1 b2) b3⟩
  rw [hr2] at R2
  simp only [Bool.and_eq_true, decide_eq_true_eq] at hr1 hr2
  have hl1 := hr1.2
  have hl2 := hr2.2
  have hxx : ∀ x ∈ xs, inR x.n ∧ x.s.size ≤ 281474976710655 := fun x hx => ⟨hi1 x hx, by have := hy1 x hx; omega⟩
  have hyy : ∀ x ∈ ys, inR x.n ∧ x.s.size ≤ 281474976710655 := fun x hx => ⟨hi2 x hx, by have := hy2 x hx; omega⟩
  have hxy : ∀ x ∈ xs ++ ys, inR x.n ∧ x.s.size ≤ 281474976710655 := fun x hx => by
    rcases List.mem_append.1 hx with h | h
    · exact hxx x h
    · exact hyy x h
  have hlxy : (xs ++ ys).length = xs.length + ys.length := List.length_append
  have GX := hid (fun op w (ho : 1 ≤ op ∧ op ≤ 4) (h2 : op ≠ 2) r => gath_nn op xs p1 c1 w ho h2 (by omega) r hxx)
  have GY := hid (fun op w (ho : 1 ≤ op ∧ op ≤ 4) (h2 : op ≠ 2) r => gath_nn op ys p2 c2 w ho h2 (by omega) r hyy)
  have GZ := hid (fun op p c w (ho : 1 ≤ op ∧ op ≤ 4) (h2 : op ≠ 2) (r : Row w p (xs ++ ys)) => gath_nn op (xs ++ ys) p c w ho h2 (by rw [hlxy]; omega) r hxy)
  have hrx : ∀ x ∈ nn xs, rightV x = true ∧ x.k ≠ 0 := fun x hx => ⟨List.all_eq_true.1 hr1.1 x (nn_mem.1 hx).1, (nn_mem.1 hx).2⟩
  have hry : ∀ x ∈ nn ys, rightV x = true ∧ x.k ≠ 0 := fun x hx => ⟨List.all_eq_true.1 hr2.1 x (nn_mem.1 hx).1, (nn_mem.1 hx).2⟩
  have HPK := hid (fun op (h : op = 3 ∨ op = 4) => best_parts h hrx hry)
  have sz1 : ∀ op, op ≠ 1 → op ≠ 2 → (gatV op (nn xs)).s.size ≤ maxLen := fun op o1 o2 => by
    rcases gat_mem o1 o2 (nn xs) with ⟨h, _⟩ | h
    · rw [h]; exact Nat.zero_le _
    · have := (hxx _ (nn_mem.1 h).1).2; unfold maxLen; omega
  have sz2 : ∀ op, op ≠ 1 → op ≠ 2 → (gatV op (nn ys)).s.size ≤ maxLen := fun op o1 o2 => by
    rcases gat_mem o1 o2 (nn ys) with ⟨h, _⟩ | h
    · rw [h]; exact Nat.zero_le _
    · have := (hyy _ (nn_mem.1 h).1).2; unfold maxLen; omega
  have HC := hid (fun op w (o1 : op ≠ 1) (o2 : op ≠ 2) => refCompare_any (gatV op (nn xs)) (gatV op (nn ys)) w (sz1 op o1 o2) (sz2 op o1 o2))
  have HN1 := hid n1
  have HN2 := hid n2
  have hnl : (nn (xs ++ ys)).length = (nn xs).length + (nn ys).length := by rw [nn_append, List.length_append]
  have hm1 : (nn xs).length ≤ 300 := Nat.le_trans (List.length_filter_le _ _) hl1
  have hm2 : (nn ys).length ≤ 300 := Nat.le_trans (List.length_filter_le _ _) hl2
  have G1 := fun w r => GX.out 1 w (by decide) (by decide) r
  have G2 := fun w r => GY.out 1 w (by decide) (by decide) r
  have G3 := fun p c w r => GZ.out 1 p c w (by decide) (by decide) r
  rw [show gatV 1 (nn xs) = numV (nn xs).length from rfl] at G1
  rw [show gatV 1 (nn ys) = numV (nn ys).length from rfl] at G2
  rw [show gatV 1 (nn (xs ++ ys)) = numV (nn (xs ++ ys)).length from rfl, hnl, hlxy] at G3
  unfold Val.v numV at G1 G2 G3
  simp only [] at G1 G2 G3
  rw [Int.natCast_add] at G3
  clear rA rB hr1 hr2 hi1 hi2 hy1 hy2 hxx hyy hxy hrx hry sz1 sz2 n1 n2 hnl
  go_enter Try.func6, Try.ntmps6
  go_upto_region 6 with (first
    | (go_at_call 15; with_reducible refine (W _).mono ?_; rintro e w1 ⟨rfl, b1⟩)
    | (go_at_call 10; with_reducible refine (R1 _ (HX.out.below b1)).mono ?_; rintro e w2 ⟨rfl, b2⟩)
    | (go_at_call 10; with_reducible refine (R2 _ (HY.out.below (below2 b1 b2))).mono ?_; rintro e w3 ⟨rfl, b3⟩; have B3 := hid (below2 (below2 b1 b2) b3))
    | (at_builtin; (first
      | (refine appVs w3.heap.size _ _ _ [] xs p1 c1 rfl rfl rfl rfl (own_litV w3) HN1.out ((HX.out.below B3.out).below (alloc_bel w3 _)) (by simp; omega) (by simp) ?_; intro v6 w6 o6 b6; have O6 := hid o6; have B36 := hid ((alloc_bel w3 _).trans b6); have B6 := hid (B3.out.trans (B36.out.mono B3.out.size)); clear o6 b6)
      | (refine appVs w3.heap.size _ _ _ xs ys p2 c2 rfl rfl rfl rfl O6.out HN2.out (HY.out.below B6.out) (by omega) B36.out.size ?_; intro v7 w7 o7 b7; have B37 := hid (B36.out.trans b7); have B7 := hid (B3.out.trans (B37.out.mono B3.out.size)); obtain ⟨p7, c7, hv7, r7, _, _⟩ := ownV_slice o7; subst hv7; have HZ := hid r7; clear o7 b7 r7)))
    | fail)
  have HB7 := hid B7.out
  have RX := hid (HX.out.below B7.out)
  clear B3 B36 B6 B37 O6 b1 b2 b3
  go_upto_region 9 with (first
    | (go_at_call 16; with_reducible refine (G1 _ (HX.out.below HB7.out)).mono ?_; rintro e w8 ⟨rfl, b8⟩; have A1 := hid (Box.new w8 2 (nn xs).length ⟨#[]⟩ 32); have B8 := below2 HB7.out b8; have B8' := hid (B8.alloc B8.size (.cells #[.int .i64 2, .int .i64 (nn xs).length, .string ⟨#[]⟩] 32)); have Z8 := hid ((HZ.out.below b8).below (alloc_bel _ (.cells #[.int .i64 2, .int .i64 (nn xs).length, .string ⟨#[]⟩] 32))))
    | (go_at_call 16; with_reducible refine (G2 _ (HY.out.below B8'.out)).mono ?_; rintro e w9 ⟨rfl, b9⟩; have A2 := hid ((A1.out.below b9).alloc (.cells #[.int .i64 2, .int .i64 (nn ys).length, .string ⟨#[]⟩] 32)); have A3 := hid (Box.new w9 2 (nn ys).length ⟨#[]⟩ 32); have B9 := below2 B8'.out b9; have B9' := hid (B9.alloc B9.size (.cells #[.int .i64 2, .int .i64 (nn ys).length, .string ⟨#[]⟩] 32)); have Z9 := hid ((Z8.out.below b9).below (alloc_bel _ (.cells #[.int .i64 2, .int .i64 (nn ys).length, .string ⟨#[]⟩] 32))))
    | (go_at_call 16; with_reducible refine (G3 _ _ _ Z9.out).mono ?_; rintro e w10 ⟨rfl, b10⟩; have A4 := hid ((A2.out.below b10).alloc (.cells #[.int .i64 2, .int .i64 (((nn xs).length : Int) + ((nn ys).length : Int)), .string ⟨#[]⟩] 32)); have A5 := hid ((A3.out.below b10).alloc (.cells #[.int .i64 2, .int .i64 (((nn xs).length : Int) + ((nn ys).length : Int)), .string ⟨#[]⟩] 32)); have A6 := hid (Box.new w10 2 (((nn xs).length : Int) + ((nn ys).length : Int)) ⟨#[]⟩ 32); have B10 := below2 B9'.out b10; have B10' := hid (B10.alloc B10.size (.cells #[.int .i64 2, .int .i64 (((nn xs).length : Int) + ((nn ys).length : Int)), .string ⟨#[]⟩] 32)); have Z10 := hid ((Z9.out.below b10).below (alloc_bel _ (.cells #[.int .i64 2, .int .i64 (((nn xs).length : Int) + ((nn ys).length : Int)), .string ⟨#[]⟩] 32))))
    | fail)
  generalize w8.heap.size = a1 at *
  generalize w9.heap.size = a2 at *
  generalize w10.heap.size = a3 at *
  generalize World.alloc w10 _ = V at *
  obtain ⟨x0, x1, x2, _⟩ := A4.out.out
  obtain ⟨y0, y1, y2, _⟩ := A5.out.out
  obtain ⟨z0, z1, z2, _⟩ := A6.out.out
  have hk1 : (0 : Int) ≤ ((nn xs).length : Int) ∧ ((nn xs).length : Int) ≤ 300 := by omega
  have hk2 : (0 : Int) ≤ ((nn ys).length : Int) ∧ ((nn ys).length : Int) ≤ 300 := by omega
  generalize ((nn xs).length : Int) = nx at *
  generalize ((nn ys).length : Int) = ny at *
  go_wp2_with fail
  go_loopw [12] (fun i wr => ∃ op : Int, 3 ≤ op ∧ op ≤ 5 ∧ i = .int .i64 op ∧ Below w.heap.size w wr ∧ Row wr p7 (xs ++ ys)) (fun i _ => 5 - (intOf i).toNat)
  case atStart => exact ⟨3, by decide, by decide, rfl, B10'.out, Z10.out⟩
  case round =>
    obtain ⟨op, ho3, ho5, rfl, hb, rz⟩ := hrel
    have HB := hid hb
    have HZr := hid rz
    clear x0 x1 x2 y0 y1 y2 z0 z1 z2 A1 A2 A3 A4 A5 A6 B10' Z10 Z8 Z9 B8' B9' hb rz
    obtain rfl | rfl | rfl : op = 3 ∨ op = 4 ∨ op = 5 := by omega
    · have gx := fun w r => GX.out 3 w (by decide) (by decide) r
      have gy := fun w r => GY.out 3 w (by decide) (by decide) r
      have gz := fun p c w r => GZ.out 3 p c w (by decide) (by decide) r
      have gc := fun w => HC.out 3 w (by decide) (by decide)
      rw [nn_append, HPK.out 3 (by decide), hlxy] at gz
      have pU := fun h => pickU (op := 3) (u := gatV 3 (nn xs)) (v := gatV 3 (nn ys)) h
      have pV := fun h => pickV (op := 3) (u := gatV 3 (nn xs)) (v := gatV 3 (nn ys)) h
      generalize cmpV (gatV 3 (nn xs)) (gatV 3 (nn ys)) = cc at *
      generalize pick2 3 (gatV 3 (nn xs)) (gatV 3 (nn ys)) = m at *
      generalize gatV 3 (nn xs) = u at *
      generalize gatV 3 (nn ys) = v at *
      obtain ⟨u1, u2, u3⟩ := u
      obtain ⟨v1, v2, v3⟩ := v
      obtain ⟨m1, m2, m3⟩ := m
      unfold Val.v at gx gy gz gc
      simp only [] at gx gy gz gc
      have P1 := hid (fun (hu : u1 = 0) => pV (Or.inl hu))
      have P2 := hid (fun (hu : ¬ u1 = 0) (hv : v1 = 0) => pU (by intro h; rcases h with h | h; exact hu h; exact h.1 hv))
      have P3 := hid (fun (hv : ¬ v1 = 0) (hc : 0 < cc) => pV (Or.inr ⟨hv, Or.inl ⟨rfl, hc⟩⟩))
      have P4 := hid (fun (hu : ¬ u1 = 0) (hc : ¬ 0 < cc) => pU (by intro h; rcases h with h | ⟨_, h | h⟩; exact hu h; exact hc h.2; exact absurd h.1 (by decide)))
      clear pU pV
      go_upto_region 15 with (first
        | (go_at_call 16; with_reducible refine (gx _ (HX.out.below HB.out)).mono ?_; rintro e w1 ⟨rfl, b1⟩)
        | fail)
      have X1 := hid (Box.new w1 u1 u2 u3 32)
      have B1 := below2 HB.out b1
      have B1' := hid (B1.alloc B1.size (.cells #[.int .i64 u1, .int .i64 u2, .string u3] 32))
      have Z1 := hid ((HZr.out.below b1).below (alloc_bel _ (.cells #[.int .i64 u1, .int .i64 u2, .string u3] 32)))
      clear b1 B1 HB HZr
      generalize w1.heap.size = s1 at *
      generalize World.alloc w1 _ = V1 at *
      go_upto_region 16 with (first
        | (go_at_call 16; with_reducible refine (gy _ (HY.out.below B1'.out)).mono ?_; rintro e w2 ⟨rfl, b2⟩)
        | fail)
      have X2 := hid ((X1.out.below b2).alloc (.cells #[.int .i64 v1, .int .i64 v2, .string v3] 32))
      have Y2 := hid (Box.new w2 v1 v2 v3 32)
      have B2 := below2 B1'.out b2
      have B2' := hid (B2.alloc B2.size (.cells #[.int .i64 v1, .int .i64 v2, .string v3] 32))
      have Z2 := hid ((Z1.out.below b2).below (alloc_bel _ (.cells #[.int .i64 v1, .int .i64 v2, .string v3] 32)))
      clear b2 B2 B1' X1 Z1
      generalize w2.heap.size = s2 at *
      generalize World.alloc w2 _ = V2 at *
      go_upto_region 17 with (first
        | (go_at_call 16; with_reducible refine (gz _ _ _ Z2.out).mono ?_; rintro e w3 ⟨rfl, b3⟩)
        | fail)
      have X3 := hid ((X2.out.below b3).alloc (.cells #[.int .i64 m1, .int .i64 m2, .string m3] 32))
      have Y3 := hid ((Y2.out.below b3).alloc (.cells #[.int .i64 m1, .int .i64 m2, .string m3] 32))
      have M3 := hid (Box.new w3 m1 m2 m3 32)
      have B3 := below2 B2'.out b3
      have B3' := hid (B3.alloc B3.size (.cells #[.int .i64 m1, .int .i64 m2, .string m3] 32))
      have Z3 := hid ((Z2.out.below b3).below (alloc_bel _ (.cells #[.int .i64 m1, .int .i64 m2, .string m3] 32)))
      clear b3 B3 B2' X2 Y2 Z2 gx gy gz
      generalize w3.heap.size = s3 at *
      generalize World.alloc w3 _ = V3 at *
      have hs3 := B3'.out.size
      obtain ⟨x0, x1, x2, _⟩ := X3.out.out
      obtain ⟨y0, y1, y2, _⟩ := Y3.out.out
      have hx := cell_lt x0
      have hy := cell_lt y0
      have hm := cell_lt M3.out.1
      by_cases hu : u1 = 0
      ·
        have hm' := P1.out hu
        subst hu
        obtain ⟨rfl, rfl, rfl⟩ : v1 = m1 ∧ v2 = m2 ∧ v3 = m3 := by simpa using hm'.symm
        have q := eqv_same v1 v2 v3
        clear P1 P2 P3 P4 hm'
        go_wp2_with (first
          | (go_at_call 17; with_reducible refine (gc _).mono ?_; rintro e w4 ⟨rfl, b4⟩; have X4 := hid ((X3.out.alloc (.cells #[.int .i64 0, .int .i64 u2, .string u3] 32)).below b4); have Y4 := hid ((Y3.out.alloc (.cells #[.int .i64 0, .int .i64 u2, .string u3] 32)).below b4); have M4 := hid ((M3.out.alloc (.cells #[.int .i64 0, .int .i64 u2, .string u3] 32)).below b4); have Q4 := hid ((Box.new V3 0 u2 u3 32).below b4); have B4 := hid ((B3'.out.alloc B3'.out.size (.cells #[.int .i64 0, .int .i64 u2, .string u3] 32)).trans (b4.mono (B3'.out.alloc B3'.out.size _).size)); have BV4 := hid (below2 (alloc_bel V3 _) b4); have Z4 := hid ((Z3.out.below (alloc_bel _ (.cells #[.int .i64 0, .int .i64 u2, .string u3] 32))).below b4); obtain ⟨x0, x1, x2, _⟩ := X4.out.out; obtain ⟨y0, y1, y2, _⟩ := Y4.out.out; obtain ⟨m0, m1', m2', _⟩ := M4.out.out; obtain ⟨q0, q1, q2, fq0, fq1, fq2⟩ := Q4.out.out)
          | fail)
        go_roundw
        case rel => exact ⟨4, by decide, by decide, by go_num, below_put3 B4.out hs3 _ _ _, Z3.out.below (below_put3 BV4.out (Nat.le_refl _) _ _ _)⟩
        case measure => simp [intOf]
      have e0 : (u1 == 0) = false := beq_eq_false_iff_ne.2 hu
      by_cases hv : v1 = 0
      ·
        have hm' := P2.out hu hv
        subst hv
        obtain ⟨rfl, rfl, rfl⟩ : u1 = m1 ∧ u2 = m2 ∧ u3 = m3 := by simpa using hm'.symm
        have q := eqv_same u1 u2 u3
        clear P1 P2 P3 P4 hm'
        go_wp2_with (first
          | (go_at_call 17; with_reducible refine (gc _).mono ?_; rintro e w4 ⟨rfl, b4⟩; have X4 := hid ((X3.out.alloc (.cells #[.int .i64 u1, .int .i64 u2, .string u3] 32)).below b4); have Y4 := hid ((Y3.out.alloc (.cells #[.int .i64 u1, .int .i64 u2, .string u3] 32)).below b4); have M4 := hid ((M3.out.alloc (.cells #[.int .i64 u1, .int .i64 u2, .string u3] 32)).below b4); have Q4 := hid ((Box.new V3 u1 u2 u3 32).below b4); have B4 := hid ((B3'.out.alloc B3'.out.size (.cells #[.int .i64 u1, .int .i64 u2, .string u3] 32)).trans (b4.mono (B3'.out.alloc B3'.out.size _).size)); have BV4 := hid (below2 (alloc_bel V3 _) b4); have Z4 := hid ((Z3.out.below (alloc_bel _ (.cells #[.int .i64 u1, .int .i64 u2, .string u3] 32))).below b4); obtain ⟨x0, x1, x2, _⟩ := X4.out.out; obtain ⟨y0, y1, y2, _⟩ := Y4.out.out; obtain ⟨m0, m1', m2', _⟩ := M4.out.out; obtain ⟨q0, q1, q2, fq0, fq1, fq2⟩ := Q4.out.out)
          | fail)
        go_roundw
        case rel => exact ⟨4, by decide, by decide, by go_num, B4.out, Z4.out⟩
        case measure => simp [intOf]
      have e1 : (v1 != 0) = true := bne_iff_ne.2 hv
      by_cases hc : 0 < cc
      ·
        have d1 : decide (0 < cc) = true := decide_eq_true hc
        have hm' := P3.out hv hc
        obtain ⟨rfl, rfl, rfl⟩ : v1 = m1 ∧ v2 = m2 ∧ v3 = m3 := by simpa using hm'.symm
        have q := eqv_same v1 v2 v3
        clear P1 P2 P3 P4 hm'
        go_wp2_with (first
          | (go_at_call 17; with_reducible refine (gc _).mono ?_; rintro e w4 ⟨rfl, b4⟩; have X4 := hid ((X3.out.alloc (.cells #[.int .i64 u1, .int .i64 u2, .string u3] 32)).below b4); have Y4 := hid ((Y3.out.alloc (.cells #[.int .i64 u1, .int .i64 u2, .string u3] 32)).below b4); have M4 := hid ((M3.out.alloc (.cells #[.int .i64 u1, .int .i64 u2, .string u3] 32)).below b4); have Q4 := hid ((Box.new V3 u1 u2 u3 32).below b4); have B4 := hid ((B3'.out.alloc B3'.out.size (.cells #[.int .i64 u1, .int .i64 u2, .string u3] 32)).trans (b4.mono (B3'.out.alloc B3'.out.size _).size)); have BV4 := hid (below2 (alloc_bel V3 _) b4); have Z4 := hid ((Z3.out.below (alloc_bel _ (.cells #[.int .i64 u1, .int .i64 u2, .string u3] 32))).below b4); obtain ⟨x0, x1, x2, _⟩ := X4.out.out; obtain ⟨y0, y1, y2, _⟩ := Y4.out.out; obtain ⟨m0, m1', m2', _⟩ := M4.out.out; obtain ⟨q0, q1, q2, fq0, fq1, fq2⟩ := Q4.out.out)
          | fail)
        go_roundw
        case rel => exact ⟨4, by decide, by decide, by go_num, below_put3 B4.out hs3 _ _ _, Z3.out.below (below_put3 BV4.out (Nat.le_refl _) _ _ _)⟩
        case measure => simp [intOf]
      ·
        have d1 : decide (0 < cc) = false := decide_eq_false hc
        have hm' := P4.out hu (by omega)
        obtain ⟨rfl, rfl, rfl⟩ : u1 = m1 ∧ u2 = m2 ∧ u3 = m3 := by simpa using hm'.symm
        have q := eqv_same u1 u2 u3
        clear P1 P2 P3 P4 hm'
        go_wp2_with (first
          | (go_at_call 17; with_reducible refine (gc _).mono ?_; rintro e w4 ⟨rfl, b4⟩; have X4 := hid ((X3.out.alloc (.cells #[.int .i64 u1, .int .i64 u2, .string u3] 32)).below b4); have Y4 := hid ((Y3.out.alloc (.cells #[.int .i64 u1, .int .i64 u2, .string u3] 32)).below b4); have M4 := hid ((M3.out.alloc (.cells #[.int .i64 u1, .int .i64 u2, .string u3] 32)).below b4); have Q4 := hid ((Box.new V3 u1 u2 u3 32).below b4); have B4 := hid ((B3'.out.alloc B3'.out.size (.cells #[.int .i64 u1, .int .i64 u2, .string u3] 32)).trans (b4.mono (B3'.out.alloc B3'.out.size _).size)); have BV4 := hid (below2 (alloc_bel V3 _) b4); have Z4 := hid ((Z3.out.below (alloc_bel _ (.cells #[.int .i64 u1, .int .i64 u2, .string u3] 32))).below b4); obtain ⟨x0, x1, x2, _⟩ := X4.out.out; obtain ⟨y0, y1, y2, _⟩ := Y4.out.out; obtain ⟨m0, m1', m2', _⟩ := M4.out.out; obtain ⟨q0, q1, q2, fq0, fq1, fq2⟩ := Q4.out.out)
          | fail)
        go_roundw
        case rel => exact ⟨4, by decide, by decide, by go_num, B4.out, Z4.out⟩
        case measure => simp [intOf]
    · have gx := fun w r => GX.out 4 w (by decide) (by decide) r
      have gy := fun w r => GY.out 4 w (by decide) (by decide) r
      have gz := fun p c w r => GZ.out 4 p c w (by decide) (by decide) r
      have gc := fun w => HC.out 4 w (by decide) (by decide)
      rw [nn_append, HPK.out 4 (by decide), hlxy] at gz
      have pU := fun h => pickU (op := 4) (u := gatV 4 (nn xs)) (v := gatV 4 (nn ys)) h
      have pV := fun h => pickV (op := 4) (u := gatV 4 (nn xs)) (v := gatV 4 (nn ys)) h
      generalize cmpV (gatV 4 (nn xs)) (gatV 4 (nn ys)) = cc at *
      generalize pick2 4 (gatV 4 (nn xs)) (gatV 4 (nn ys)) = m at *
      generalize gatV 4 (nn xs) = u at *
      generalize gatV 4 (nn ys) = v at *
      obtain ⟨u1, u2, u3⟩ := u
      obtain ⟨v1, v2, v3⟩ := v
      obtain ⟨m1, m2, m3⟩ := m
      unfold Val.v at gx gy gz gc
      simp only [] at gx gy gz gc
      have P1 := hid (fun (hu : u1 = 0) => pV (Or.inl hu))
      have P2 := hid (fun (hu : ¬ u1 = 0) (hv : v1 = 0) => pU (by intro h; rcases h with h | h; exact hu h; exact h.1 hv))
      have P3 := hid (fun (hv : ¬ v1 = 0) (hc : cc < 0) => pV (Or.inr ⟨hv, Or.inr ⟨rfl, hc⟩⟩))
      have P4 := hid (fun (hu : ¬ u1 = 0) (hc : ¬ cc < 0) => pU (by intro h; rcases h with h | ⟨_, h | h⟩; exact hu h; exact absurd h.1 (by decide); exact hc h.2))
      clear pU pV
      go_upto_region 15 with (first
        | (go_at_call 16; with_reducible refine (gx _ (HX.out.below HB.out)).mono ?_; rintro e w1 ⟨rfl, b1⟩)
        | fail)
      have X1 := hid (Box.new w1 u1 u2 u3 32)
      have B1 := below2 HB.out b1
      have B1' := hid (B1.alloc B1.size (.cells #[.int .i64 u1, .int .i64 u2, .string u3] 32))
      have Z1 := hid ((HZr.out.below b1).below (alloc_bel _ (.cells #[.int .i64 u1, .int .i64 u2, .string u3] 32)))
      clear b1 B1 HB HZr
      generalize w1.heap.size = s1 at *
      generalize World.alloc w1 _ = V1 at *
      go_upto_region 16 with (first
        | (go_at_call 16; with_reducible refine (gy _ (HY.out.below B1'.out)).mono ?_; rintro e w2 ⟨rfl, b2⟩)
        | fail)
      have X2 := hid ((X1.out.below b2).alloc (.cells #[.int .i64 v1, .int .i64 v2, .string v3] 32))
      have Y2 := hid (Box.new w2 v1 v2 v3 32)
      have B2 := below2 B1'.out b2
      have B2' := hid (B2.alloc B2.size (.cells #[.int .i64 v1, .int .i64 v2, .string v3] 32))
      have Z2 := hid ((Z1.out.below b2).below (alloc_bel _ (.cells #[.int .i64 v1, .int .i64 v2, .string v3] 32)))
      clear b2 B2 B1' X1 Z1
      generalize w2.heap.size = s2 at *
      generalize World.alloc w2 _ = V2 at *
      go_upto_region 17 with (first
        | (go_at_call 16; with_reducible refine (gz _ _ _ Z2.out).mono ?_; rintro e w3 ⟨rfl, b3⟩)
        | fail)
      have X3 := hid ((X2.out.below b3).alloc (.cells #[.int .i64 m1, .int .i64 m2, .string m3] 32))
      have Y3 := hid ((Y2.out.below b3).alloc (.cells #[.int .i64 m1, .int .i64 m2, .string m3] 32))
      have M3 := hid (Box.new w3 m1 m2 m3 32)
      have B3 := below2 B2'.out b3
      have B3' := hid (B3.alloc B3.size (.cells #[.int .i64 m1, .int .i64 m2, .string m3] 32))
      have Z3 := hid ((Z2.out.below b3).below (alloc_bel _ (.cells #[.int .i64 m1, .int .i64 m2, .string m3] 32)))
      clear b3 B3 B2' X2 Y2 Z2 gx gy gz
      generalize w3.heap.size = s3 at *
      generalize World.alloc w3 _ = V3 at *
      have hs3 := B3'.out.size
      obtain ⟨x0, x1, x2, _⟩ := X3.out.out
      obtain ⟨y0, y1, y2, _⟩ := Y3.out.out
      have hx := cell_lt x0
      have hy := cell_lt y0
      have hm := cell_lt M3.out.1
      by_cases hu : u1 = 0
      ·
        have hm' := P1.out hu
        subst hu
        obtain ⟨rfl, rfl, rfl⟩ : v1 = m1 ∧ v2 = m2 ∧ v3 = m3 := by simpa using hm'.symm
        have q := eqv_same v1 v2 v3
        clear P1 P2 P3 P4 hm'
        go_wp2_with (first
          | (go_at_call 17; with_reducible refine (gc _).mono ?_; rintro e w4 ⟨rfl, b4⟩; have X4 := hid ((X3.out.alloc (.cells #[.int .i64 0, .int .i64 u2, .string u3] 32)).below b4); have Y4 := hid ((Y3.out.alloc (.cells #[.int .i64 0, .int .i64 u2, .string u3] 32)).below b4); have M4 := hid ((M3.out.alloc (.cells #[.int .i64 0, .int .i64 u2, .string u3] 32)).below b4); have Q4 := hid ((Box.new V3 0 u2 u3 32).below b4); have B4 := hid ((B3'.out.alloc B3'.out.size (.cells #[.int .i64 0, .int .i64 u2, .string u3] 32)).trans (b4.mono (B3'.out.alloc B3'.out.size _).size)); have BV4 := hid (below2 (alloc_bel V3 _) b4); have Z4 := hid ((Z3.out.below (alloc_bel _ (.cells #[.int .i64 0, .int .i64 u2, .string u3] 32))).below b4); obtain ⟨x0, x1, x2, _⟩ := X4.out.out; obtain ⟨y0, y1, y2, _⟩ := Y4.out.out; obtain ⟨m0, m1', m2', _⟩ := M4.out.out; obtain ⟨q0, q1, q2, fq0, fq1, fq2⟩ := Q4.out.out)
          | fail)
        go_roundw
        case rel => exact ⟨5, by decide, by decide, by go_num, below_put3 B4.out hs3 _ _ _, Z3.out.below (below_put3 BV4.out (Nat.le_refl _) _ _ _)⟩
        case measure => simp [intOf]
      have e0 : (u1 == 0) = false := beq_eq_false_iff_ne.2 hu
      by_cases hv : v1 = 0
      ·
        have hm' := P2.out hu hv
        subst hv
        obtain ⟨rfl, rfl, rfl⟩ : u1 = m1 ∧ u2 = m2 ∧ u3 = m3 := by simpa using hm'.symm
        have q := eqv_same u1 u2 u3
        clear P1 P2 P3 P4 hm'
        go_wp2_with (first
          | (go_at_call 17; with_reducible refine (gc _).mono ?_; rintro e w4 ⟨rfl, b4⟩; have X4 := hid ((X3.out.alloc (.cells #[.int .i64 u1, .int .i64 u2, .string u3] 32)).below b4); have Y4 := hid ((Y3.out.alloc (.cells #[.int .i64 u1, .int .i64 u2, .string u3] 32)).below b4); have M4 := hid ((M3.out.alloc (.cells #[.int .i64 u1, .int .i64 u2, .string u3] 32)).below b4); have Q4 := hid ((Box.new V3 u1 u2 u3 32).below b4); have B4 := hid ((B3'.out.alloc B3'.out.size (.cells #[.int .i64 u1, .int .i64 u2, .string u3] 32)).trans (b4.mono (B3'.out.alloc B3'.out.size _).size)); have BV4 := hid (below2 (alloc_bel V3 _) b4); have Z4 := hid ((Z3.out.below (alloc_bel _ (.cells #[.int .i64 u1, .int .i64 u2, .string u3] 32))).below b4); obtain ⟨x0, x1, x2, _⟩ := X4.out.out; obtain ⟨y0, y1, y2, _⟩ := Y4.out.out; obtain ⟨m0, m1', m2', _⟩ := M4.out.out; obtain ⟨q0, q1, q2, fq0, fq1, fq2⟩ := Q4.out.out)
          | fail)
        go_roundw
        case rel => exact ⟨5, by decide, by decide, by go_num, B4.out, Z4.out⟩
        case measure => simp [intOf]
      have e1 : (v1 != 0) = true := bne_iff_ne.2 hv
      by_cases hc : cc < 0
      ·
        have d1 : decide (cc < 0) = true := decide_eq_true hc
        have hm' := P3.out hv hc
        obtain ⟨rfl, rfl, rfl⟩ : v1 = m1 ∧ v2 = m2 ∧ v3 = m3 := by simpa using hm'.symm
        have q := eqv_same v1 v2 v3
        clear P1 P2 P3 P4 hm'
        go_wp2_with (first
          | (go_at_call 17; with_reducible refine (gc _).mono ?_; rintro e w4 ⟨rfl, b4⟩; have X4 := hid ((X3.out.alloc (.cells #[.int .i64 u1, .int .i64 u2, .string u3] 32)).below b4); have Y4 := hid ((Y3.out.alloc (.cells #[.int .i64 u1, .int .i64 u2, .string u3] 32)).below b4); have M4 := hid ((M3.out.alloc (.cells #[.int .i64 u1, .int .i64 u2, .string u3] 32)).below b4); have Q4 := hid ((Box.new V3 u1 u2 u3 32).below b4); have B4 := hid ((B3'.out.alloc B3'.out.size (.cells #[.int .i64 u1, .int .i64 u2, .string u3] 32)).trans (b4.mono (B3'.out.alloc B3'.out.size _).size)); have BV4 := hid (below2 (alloc_bel V3 _) b4); have Z4 := hid ((Z3.out.below (alloc_bel _ (.cells #[.int .i64 u1, .int .i64 u2, .string u3] 32))).below b4); obtain ⟨x0, x1, x2, _⟩ := X4.out.out; obtain ⟨y0, y1, y2, _⟩ := Y4.out.out; obtain ⟨m0, m1', m2', _⟩ := M4.out.out; obtain ⟨q0, q1, q2, fq0, fq1, fq2⟩ := Q4.out.out)
          | fail)
        go_roundw
        case rel => exact ⟨5, by decide, by decide, by go_num, below_put3 B4.out hs3 _ _ _, Z3.out.below (below_put3 BV4.out (Nat.le_refl _) _ _ _)⟩
        case measure => simp [intOf]
      ·
        have d1 : decide (cc < 0) = false := decide_eq_false hc
        have hm' := P4.out hu (by omega)
        obtain ⟨rfl, rfl, rfl⟩ : u1 = m1 ∧ u2 = m2 ∧ u3 = m3 := by simpa using hm'.symm
        have q := eqv_same u1 u2 u3
        clear P1 P2 P3 P4 hm'
        go_wp2_with (first
          | (go_at_call 17; with_reducible refine (gc _).mono ?_; rintro e w4 ⟨rfl, b4⟩; have X4 := hid ((X3.out.alloc (.cells #[.int .i64 u1, .int .i64 u2, .string u3] 32)).below b4); have Y4 := hid ((Y3.out.alloc (.cells #[.int .i64 u1, .int .i64 u2, .string u3] 32)).below b4); have M4 := hid ((M3.out.alloc (.cells #[.int .i64 u1, .int .i64 u2, .string u3] 32)).below b4); have Q4 := hid ((Box.new V3 u1 u2 u3 32).below b4); have B4 := hid ((B3'.out.alloc B3'.out.size (.cells #[.int .i64 u1, .int .i64 u2, .string u3] 32)).trans (b4.mono (B3'.out.alloc B3'.out.size _).size)); have BV4 := hid (below2 (alloc_bel V3 _) b4); have Z4 := hid ((Z3.out.below (alloc_bel _ (.cells #[.int .i64 u1, .int .i64 u2, .string u3] 32))).below b4); obtain ⟨x0, x1, x2, _⟩ := X4.out.out; obtain ⟨y0, y1, y2, _⟩ := Y4.out.out; obtain ⟨m0, m1', m2', _⟩ := M4.out.out; obtain ⟨q0, q1, q2, fq0, fq1, fq2⟩ := Q4.out.out)
          | fail)
        go_roundw
        case rel => exact ⟨5, by decide, by decide, by go_num, B4.out, Z4.out⟩
        case measure => simp [intOf]
    · go_wp2
      go_ret
      exact ⟨rfl, HB.out⟩
end Go.Proofs.Ytfcecblppdgcbaa
