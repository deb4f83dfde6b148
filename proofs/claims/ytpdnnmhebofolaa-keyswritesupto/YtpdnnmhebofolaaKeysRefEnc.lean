/- What the document's own Encode answers: the same as keys.Encode. Condition: nine times what the row holds lies within the reach. -/
import Derived.Test.YtpdnnmhebofolaaKeysRef
import Derived.Test.YtpdnnmhebofolaaRefCheck
namespace Go.Proofs.Ytpdnnmhebofolaa
open Go.RowKit Go.Lib Go.Sort
set_option linter.unusedVariables false

theorem refBytes_any (a : Val) (w : World) (hr : a.right = true) (h1 : -9223372036854775808 ≤ a.n) (h2 : a.n ≤ 9223372036854775807) (hl : 2 * a.s.size + 9 ≤ 140737488351232) :
    Calls Try.prog 24 #[.agg #[.int .i64 a.k, .int .i64 a.n, .string a.s]] w (bytEnd (bytesV a) w) := by
  obtain ⟨k, n, s⟩ := a
  rcases right_cases hr with h | h | h | h | h
  · obtain ⟨rfl, _⟩ : k = 0 ∧ n = 0 := ⟨h.1, h.2.1⟩
    exact bytes_0 n s w
  · obtain ⟨rfl, hn⟩ : k = 1 ∧ (n = 0 ∨ n = 1) := ⟨h.1, h.2.1⟩
    rcases hn with rfl | rfl
    · exact bytes_1 0 0 (Or.inl ⟨rfl, rfl⟩) s w
    · exact bytes_1 1 1 (Or.inr ⟨rfl, rfl⟩) s w
  · obtain rfl : k = 2 := h.1
    exact bytes_2 n h1 h2 s w
  · obtain rfl : k = 3 := h.1
    exact bytes_34 3 4 (Or.inl ⟨rfl, rfl⟩) n s w hl
  · obtain rfl : k = 4 := h.1
    exact bytes_34 4 5 (Or.inr ⟨rfl, rfl⟩) n s w hl

theorem tb_false_map (l : List UInt8) : l.map (tb false) = l := by
  have : tb false = id := by funext c; rfl
  rw [this, List.map_id]

set_option maxHeartbeats 4000000 in
theorem refEncode_any (p q : Option Addr) (xs : List Val) (ds : List Bool) (cx cd : Nat) (w : World) (rX : Row w p xs) (rD : Bits w q ds) (hn : ∀ v ∈ xs, -9223372036854775808 ≤ v.n ∧ v.n ≤ 9223372036854775807) (hb : 9 * bulkR xs ≤ 140737488351232) (hD : ds.length ≤ maxLen) :
    Calls Try.prog 10 #[.slice p xs.length cx, .slice q ds.length cd] w (encEnd xs ds w) := by
  have hlen := bulkR_len xs
  have HX : Hid (Row w p xs) := rX
  have HD : Hid (Bits w q ds) := rD
  clear rX rD
  go_enter Try.func10, Try.ntmps10
  go_wp2
  go_loopw [6, 7] (fun b i wr => ∃ k : Nat, k ≤ xs.length ∧ i = .int .i64 k ∧ (∀ v ∈ xs.take k, v.right = true) ∧ OwnB wr w.heap.size b (encR (xs.take k) ds) ∧ Below w.heap.size w wr) (fun _ i _ => xs.length - (RowKit.intOf i).toNat)
  case atStart => exact ⟨0, Nat.zero_le _, rfl, by simp, own_nil _ _, Below.refl _ _⟩
  case round =>
    obtain ⟨k, hks, rfl, hr, hO, B⟩ := hrel
    have HB : Hid (Below w.heap.size w wr) := B
    clear B
    have hsz := HB.out.size
    by_cases hx : k < xs.length
    · obtain ⟨b1, o1, rfl, c10, c11, c12⟩ := (HX.out.below HB.out).at hx
      have hmem : xs[k] ∈ xs := List.getElem_mem hx
      have HTR : Hid (∀ v ∈ xs.take (k + 1), v ∈ xs.take k ∨ v = xs[k]) := by
        intro v hv
        rw [List.take_succ_eq_append_getElem hx] at hv
        rcases List.mem_append.1 hv with h | h
        · exact Or.inl h
        · exact Or.inr (List.mem_singleton.1 h)
      have HA : Hid (xs[k].right = false → xs.all Val.right = false) := fun h => by
        rw [List.all_eq_false]
        exact ⟨xs[k], hmem, by rw [h]; decide⟩
      have HT : Hid (encR (xs.take (k + 1)) ds = encR (xs.take k) ds ++ (bytesV xs[k]).map (tb (ds.getD k false))) := by
        show _ = _
        rw [List.take_succ_eq_append_getElem hx, encR_snoc]
        rw [List.length_take, Nat.min_eq_left (by omega)]
      have hbv := bytesV_length xs[k]
      have hle : (encR (xs.take k) ds).length + 2 * xs[k].s.size + 9 ≤ 140737488351232 := by
        have h1 := encR_length (xs.take k) ds
        have h2 := bulkR_take xs (k + 1)
        rw [List.take_succ_eq_append_getElem hx, bulkR_append] at h2
        simp only [bulkR] at h2
        omega
      have HNN : Hid (-9223372036854775808 ≤ xs[k].n ∧ xs[k].n ≤ 9223372036854775807) := hn _ hmem
      have TU := fun W (r : Bits W q ds) => turned_any q ds cd k W hD (by unfold maxLen; omega) r
      generalize xs[k] = x at *
      generalize ds.getD k false = t' at *
      have C := fun W => refCheck_any x W
      cases hrx : x.right
      · have e1 := checkV_wrong hrx
        generalize checkV x = ch at *
        obtain ⟨xk, xn, xt⟩ := x
        simp only [Val.v] at C
        simp only [] at c10 c11 c12
        have hr' := HA.out hrx
        clear TU
        go_wp2_with (first
          | (go_at_call 23; with_reducible refine (C _).mono ?_; rintro e w2 ⟨rfl, B2⟩; have HB2 := hid B2; clear B2)
          | fail)
        go_returns
        exact ⟨HB.out.trans (HB2.out.mono HB.out.size), Or.inr ⟨hr', rfl⟩⟩
      · have e1 := checkV_right hrx
        rw [e1] at C
        clear e1
        have HR : Hid (x.right = true) := hrx
        have BY := fun W => refBytes_any x W hrx HNN.out.1 HNN.out.2 (by omega)
        have hpos : 0 < (bytesV x).length := by simp [bytesV]
        clear hrx
        generalize hbx : bytesV x = bx at *
        obtain ⟨xk, xn, xt⟩ := x
        simp only [Val.v] at C
        simp only [] at c10 c11 c12 BY hbv hle
        generalize hpre : encR (xs.take k) ds = pre at *
        have HO : Hid (OwnB wr w.heap.size _ pre) := hO
        have HRw : Hid (Row w (some ⟨b1, o1, none⟩) xs) := HX.out
        clear hO
        unfold bytEnd at BY
        have FL := fun p c W (r : Byts W p bx) => flip_any p bx c W (by omega) r
        unfold flipEnd at FL
        have cc : ∀ w2, Below wr.heap.size wr w2 → w2.cell? ⟨b1, o1 + k * 3, none⟩ = some (.int .i64 xk) ∧ w2.cell? ⟨b1, o1 + k * 3 + 1, none⟩ = some (.int .i64 xn) ∧ w2.cell? ⟨b1, o1 + k * 3 + 2, none⟩ = some (.string xt) := fun w2 b => ⟨below_cell b c10, below_cell b c11, below_cell b c12⟩
        have HC : Hid (∀ w2, Below wr.heap.size wr w2 → w2.cell? ⟨b1, o1 + k * 3, none⟩ = some (.int .i64 xk) ∧ w2.cell? ⟨b1, o1 + k * 3 + 1, none⟩ = some (.int .i64 xn) ∧ w2.cell? ⟨b1, o1 + k * 3 + 2, none⟩ = some (.string xt)) := cc
        clear cc
        cases t'
        · go_wp2_with (first
            | (go_at_call 23; with_reducible refine (C _).mono ?_; rintro e w2 ⟨rfl, B2⟩; have HB2 := hid B2; obtain ⟨g0, g1, g2⟩ := HC.out w2 B2; clear B2)
            | (go_at_call 24; with_reducible refine (BY _).mono ?_; rintro e w3 ⟨v3, rfl, O3, B3⟩; have HO3 := hid O3; have HB3 := hid (HB2.out.trans (B3.mono HB2.out.size)); have TU3 := TU w3 (HD.out.below (HB.out.trans (HB3.out.mono hsz))); clear O3 B3)
            | (go_at_call 25; with_reducible refine TU3.mono ?_; rintro e w4 ⟨rfl, hw4⟩; subst hw4)
            | (at_builtin; refine appBs w.heap.size _ _ _ _ _ pre bx rfl rfl rfl rfl (HO.out.below HB3.out) HO3.out hpos (by omega) (Nat.le_trans hsz HB3.out.size) ?_; intro v5 w5 O5 P5 B5; have HO5 := hid O5; have HB5 := hid B5; clear O5 P5 B5)
            | fail)
          go_roundw
          case rel => exact ⟨k + 1, by omega, by go_num, fun v hv => (HTR.out v hv).elim (hr v) (fun e => by rw [e]; exact HR.out), by rw [HT.out, tb_false_map]; exact HO5.out, (HB.out.trans (HB3.out.mono hsz)).trans HB5.out⟩
          case measure => simp [RowKit.intOf]; omega
        · have hpos2 : 0 < (bx.map (tb true)).length := by rw [List.length_map]; exact hpos
          have hlen2 : pre.length + (bx.map (tb true)).length ≤ 140737488351232 := by rw [List.length_map]; omega
          generalize bx.map (tb true) = fx at *
          go_wp2_with (first
            | (go_at_call 23; with_reducible refine (C _).mono ?_; rintro e w2 ⟨rfl, B2⟩; have HB2 := hid B2; obtain ⟨g0, g1, g2⟩ := HC.out w2 B2; clear B2)
            | (go_at_call 24; with_reducible refine (BY _).mono ?_; rintro e w3 ⟨v3, rfl, O3, B3⟩; have HB3 := hid (HB2.out.trans (B3.mono HB2.out.size)); have TU3 := TU w3 (HD.out.below (HB.out.trans (HB3.out.mono hsz))); obtain ⟨p3, c3, hv3, r3, _, _⟩ := Byts.of_own O3; subst hv3; have FL3 := FL p3 c3 w3 r3; clear O3 B3 r3)
            | (go_at_call 25; with_reducible refine TU3.mono ?_; rintro e w4 ⟨rfl, hw4⟩; subst hw4)
            | (go_at_call 26; with_reducible refine FL3.mono ?_; rintro e w4 ⟨v4, rfl, O4, B4⟩; have HO4 := hid O4; have HB4 := hid (HB3.out.trans (B4.mono HB3.out.size)); clear O4 B4)
            | (at_builtin; refine appBs w.heap.size _ _ _ _ _ pre fx rfl rfl rfl rfl (HO.out.below HB4.out) HO4.out hpos2 hlen2 (Nat.le_trans hsz HB4.out.size) ?_; intro v5 w5 O5 P5 B5; have HO5 := hid O5; have HB5 := hid B5; clear O5 P5 B5)
            | fail)
          go_roundw
          case rel => exact ⟨k + 1, by omega, by go_num, fun v hv => (HTR.out v hv).elim (hr v) (fun e => by rw [e]; exact HR.out), by rw [HT.out]; exact HO5.out, (HB.out.trans (HB4.out.mono hsz)).trans HB5.out⟩
          case measure => simp [RowKit.intOf]; omega
    · obtain rfl : k = xs.length := by omega
      rw [List.take_length] at hO hr
      go_wp2
      go_returns
      exact ⟨HB.out, Or.inl ⟨List.all_eq_true.2 hr, _, rfl, hO⟩⟩
end Go.Proofs.Ytpdnnmhebofolaa
