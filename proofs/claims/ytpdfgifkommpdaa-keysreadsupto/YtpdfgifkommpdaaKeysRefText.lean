/- What the document's own value answers of a text. Condition: the bytes lie within the reach. -/
import Derived.Test.YtpdfgifkommpdaaKeysRefVal
namespace Go.Proofs.Ytpdfgifkommpdaa
open Go.RowKit Go.Lib Go.Sort
set_option linter.unusedVariables false

set_option maxHeartbeats 4000000 in
theorem rv_text (b off cap : Nat) (c : UInt8) (u : List UInt8) (w : World) (hcells : ∀ i (h : i < (c :: u).length), w.cell? ⟨b, off + i, none⟩ = some (.int .u8 ((c :: u)[i].toNat : Int))) (hl : u.length + 1 ≤ 140737488351232) (k : Int) (hc : (c.toNat = 4 ∧ k = 3) ∨ (c.toNat = 5 ∧ k = 4)) (x : Except Int (Val × List UInt8)) (hxx : x = match textD u with | .ok r => .ok (⟨k, 0, ⟨r.1.toArray⟩⟩, r.2) | .error e => .error e) :
    Calls Try.prog 30 #[.slice (some ⟨b, off, none⟩) (u.length + 1) cap] w (rvEnd (c :: u) x w) := by
  have c0 : w.cell? ⟨b, off, none⟩ = some (.int .u8 (c.toNat : Int)) := hcells 0 (by simp)
  have hb := cell_lt c0
  have HC : Hid (∀ i (h : i < u.length), w.cell? ⟨b, off + (i + 1), none⟩ = some (.int .u8 (u[i].toNat : Int))) := fun i h => hcells (i + 1) (by simpa using h)
  clear hcells
  have hun : Hid (∀ r : List UInt8 × List UInt8, textD u = .ok r → ∀ i : Nat, r.2 = u.drop i → i ≤ u.length → ((c :: u).length : Int) - r.2.length = (i : Int) + 1) := by
    intro r _ i h1 h2
    rw [h1]
    simp
    omega
  have HX : Hid (x = match textD u with | .ok r => .ok (⟨k, 0, ⟨r.1.toArray⟩⟩, r.2) | .error e => .error e) := hxx
  clear hxx
  rcases hc with ⟨hc, rfl⟩ | ⟨hc, rfl⟩
  all_goals
    rw [hc] at c0
    go_enter Try.func30, Try.ntmps30
    go_wp2
    go_loopw [8, 9] (fun t i wr => ∃ (k : Nat) (acc : List UInt8), k ≤ u.length ∧ i = .int .i64 ((k : Int) + 1) ∧ OwnB wr (w.heap.size + 1) t acc ∧ acc.length ≤ k ∧ textD u = ahead acc (textD (u.drop k)) ∧ Below (w.heap.size + 1) (w.alloc (.cells #[.int .i64 0, .int .i64 0, .string ⟨#[]⟩] 43)) wr) (fun _ i _ => u.length + 1 - (RowKit.intOf i).toNat)
    case atStart => exact ⟨0, [], Nat.zero_le _, rfl, own_nil _ _, Nat.le_refl _, by rw [ahead_nil]; rfl, Below.refl _ _⟩
    case round =>
      obtain ⟨k, acc, hk, rfl, hO, hal, hT, hB⟩ := hrel
      have hsz : w.heap.size + 1 ≤ wr.heap.size := by simpa using hB.size
      obtain ⟨g0, g1, g2, z0, z1, z2⟩ := zero_keep hB
      have HO : Hid (OwnB wr (w.heap.size + 1) _ acc) := hO
      have HT : Hid (textD u = ahead acc (textD (u.drop k))) := hT
      have HB : Hid (Below (w.heap.size + 1) (w.alloc (.cells #[.int .i64 0, .int .i64 0, .string ⟨#[]⟩] 43)) wr) := hB
      have HBw : Hid (Below w.heap.size w wr) := end_below' hB
      clear hO hT hB
      by_cases hx : k < u.length
      · have ck : wr.cell? ⟨b, off + (k + 1), none⟩ = some (.int .u8 (u[k].toNat : Int)) := below_cell HBw.out (HC.out k hx)
        have hlt := UInt8.toNat_lt u[k]
        have hdr : u.drop k = u[k] :: u.drop (k + 1) := List.drop_eq_getElem_cons hx
        by_cases h0 : u[k] = 0
        · rw [h0] at hdr ck
          have ck2 : wr.cell? ⟨b, off + (k + 1), none⟩ = some (.int .u8 0) := ck
          clear ck
          by_cases hy : k + 1 < u.length
          · have cn : wr.cell? ⟨b, off + (k + 1 + 1), none⟩ = some (.int .u8 (u[k + 1].toNat : Int)) := below_cell HBw.out (HC.out (k + 1) hy)
            have cn' : wr.cell? ⟨b, off + (k + 2), none⟩ = some (.int .u8 (u[k + 1].toNat : Int)) := cn
            have hlt2 := UInt8.toNat_lt u[k + 1]
            have hdr2 : u.drop (k + 1) = u[k + 1] :: u.drop (k + 2) := List.drop_eq_getElem_cons hy
            rw [hdr2] at hdr
            by_cases h1 : u[k + 1] = 1
            · rw [h1] at hdr cn cn'
              have HE : Hid (textD u = .ok (acc, u.drop (k + 2))) := by
                show _ = _
                rw [HT.out, hdr, textD_end]
                simp [ahead]
              have cq : wr.cell? ⟨b, off + (k + 1 + 1), none⟩ = some (.int .u8 1) := cn
              have cq' : wr.cell? ⟨b, off + (k + 2), none⟩ = some (.int .u8 1) := cn
              have hcv := conv_own HO.out
              clear cn cn' hdr hdr2 HT
              go_wp2
              refine bodyPost_ret (by simp [results, Try.results30, go_sem, g0, g1, g2]; try rfl) rfl ?_
              have e9 := hun.out _ HE.out (k + 2) rfl (by omega)
              refine ⟨HBw.out.trans (by have B := Below.refl w.heap.size wr; go_grown), ?_⟩
              rw [HX.out, HE.out]
              simp only []
              rw [e9]
              simp
              try omega
            · by_cases h2 : u[k + 1] = 255
              · rw [h2] at hdr cn cn'
                have HE : Hid (textD u = ahead (acc ++ [0]) (textD (u.drop (k + 2)))) := by
                  show _ = _
                  rw [HT.out, hdr, textD_zero, ahead_ahead]
                have cq : wr.cell? ⟨b, off + (k + 1 + 1), none⟩ = some (.int .u8 255) := cn
                have cq' : wr.cell? ⟨b, off + (k + 2), none⟩ = some (.int .u8 255) := cn
                clear cn cn' hdr hdr2 HT
                go_wp2_with (at_builtin; refine appB wr (w.heap.size + 1) _ _ _ _ acc 0 _ rfl rfl rfl rfl rfl b0 HO.out (by omega) hsz ?_; intro v' w' O' P' B'; have HO' := hid O'; have HB' := hid B'; clear O' P' B')
                go_roundw
                case rel => exact ⟨k + 2, acc ++ [0], by omega, by go_num, HO'.out, by simp; omega, HE.out, HB.out.trans HB'.out⟩
                case measure => simp [RowKit.intOf]; omega
              · have n1 : u[k + 1].toNat ≠ 1 := fun e => h1 (UInt8.toNat_inj.1 e)
                have n2 : u[k + 1].toNat ≠ 255 := fun e => h2 (UInt8.toNat_inj.1 e)
                have HE : Hid (textD u = .error 3) := by
                  show _ = _
                  rw [HT.out, hdr, textD_bad _ _ h1 h2]
                  rfl
                clear hdr hdr2 HT h1 h2
                generalize u[k + 1].toNat = y at *
                have e1 : ((y : Int) == 1) = false := beq_eq_false_iff_ne.2 (by omega)
                have e2 : ((y : Int) == 255) = false := beq_eq_false_iff_ne.2 (by omega)
                go_wp2
                refine bodyPost_ret (by simp [results, Try.results30, go_sem, g0, g1, g2]; try rfl) rfl ?_
                refine ⟨HBw.out.trans (by have B := Below.refl w.heap.size wr; go_grown), ?_⟩
                rw [HX.out, HE.out]
          · have HE : Hid (textD u = .error 1) := by
              show _ = _
              rw [HT.out, hdr, List.drop_of_length_le (by omega), textD_short]
              rfl
            have hke : k + 1 = u.length := by omega
            clear hdr HT HC hun hlt h0 hx hy
            generalize u.length = L at *
            obtain rfl : L = k + 1 := by omega
            go_wp2
            refine bodyPost_ret (by simp [results, Try.results30, go_sem, g0, g1, g2]; try rfl) rfl ?_
            refine ⟨HBw.out.trans (by have B := Below.refl w.heap.size wr; go_grown), ?_⟩
            rw [HX.out, HE.out]
        · have n0 : u[k].toNat ≠ 0 := fun e => h0 (UInt8.toNat_inj.1 e)
          have HE : Hid (textD u = ahead (acc ++ [u[k]]) (textD (u.drop (k + 1)))) := by
            show _ = _
            rw [HT.out, hdr, textD_one _ _ h0, ahead_ahead]
          have e1 : ((u[k].toNat : Int) != 0) = true := bne_iff_ne.2 (by omega)
          clear hdr HT h0
          generalize u[k] = y at *
          go_wp2_with (at_builtin; refine appB wr (w.heap.size + 1) _ _ _ _ acc y _ rfl rfl rfl rfl rfl rfl HO.out (by omega) hsz ?_; intro v' w' O' P' B'; have HO' := hid O'; have HB' := hid B'; clear O' P' B')
          go_roundw
          case rel => exact ⟨k + 1, acc ++ [y], by omega, by go_num, HO'.out, by simp; omega, HE.out, HB.out.trans HB'.out⟩
          case measure => simp [RowKit.intOf]; omega
      · have HE : Hid (textD u = .error 1) := by
          show _ = _
          rw [HT.out, List.drop_of_length_le (by omega)]
          rfl
        obtain rfl : k = u.length := by omega
        clear HT
        go_wp2
        refine bodyPost_ret (by simp [results, Try.results30, go_sem, g0, g1, g2]; try rfl) rfl ?_
        refine ⟨HBw.out.trans (by have B := Below.refl w.heap.size wr; go_grown), ?_⟩
        rw [HX.out, HE.out]
end Go.Proofs.Ytpdfgifkommpdaa
