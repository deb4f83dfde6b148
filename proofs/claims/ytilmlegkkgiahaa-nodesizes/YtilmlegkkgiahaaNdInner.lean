/- What (reader).inner of package node does: the node that is no leaf that a load goes on with, or what is thrown. Condition: the bytes lie within the reach. -/
import Derived.Test.YtilmlegkkgiahaaNdKD
namespace Go.Proofs.Ytilmlegkkgiahaa
open Go.RowKit Go.Lib
set_option linter.unusedVariables false
set_option maxRecDepth 20000

def pInner (l : List UInt8) : Option (Nd × List UInt8) := (p2 l).bind fun c => (p2 c.2).bind fun d => (pKids c.1 d.2).map fun r => (⟨false, [], r.1.1, (d.1 : Int) :: r.1.2⟩, r.2)
theorem inner_none1 {m : Nat} {r : List UInt8} {ks : List (List UInt8)} {ds : List Int} (h : pKey r = none) : (pKids (m + 1) r).map (fun x => ((⟨false, [], ks ++ x.1.1, ds ++ x.1.2⟩ : Nd), x.2)) = none := by
  unfold pKids
  rw [h]
  rfl
theorem inner_none2 {m : Nat} {r ra k : List UInt8} {ks : List (List UInt8)} {ds : List Int} (h : pKey r = some (k, ra)) (h2 : p2 ra = none) : (pKids (m + 1) r).map (fun x => ((⟨false, [], ks ++ x.1.1, ds ++ x.1.2⟩ : Nd), x.2)) = none := by
  unfold pKids
  rw [h]
  simp only [Option.bind_some, h2]
  rfl
theorem inner_step {m e : Nat} {r ra r' k : List UInt8} {ks : List (List UInt8)} {ds : List Int} (h : pKey r = some (k, ra)) (h2 : p2 ra = some (e, r')) : (pKids (m + 1) r).map (fun x => ((⟨false, [], ks ++ x.1.1, ds ++ x.1.2⟩ : Nd), x.2)) = (pKids m r').map (fun x => ((⟨false, [], (ks ++ [k]) ++ x.1.1, (ds ++ [(e : Int)]) ++ x.1.2⟩ : Nd), x.2)) := by
  conv => lhs; unfold pKids
  rw [h]
  simp only [Option.bind_some, h2, Option.map_map]
  congr 1
  funext x
  simp
theorem inner_boxes (w : World) (rb tb : Nat) : (let w' := ((w.alloc (.cells (rdc rb tb) 69)).alloc (.cells #[.bool false, .slice none 0 0, .slice none 0 0, .slice none 0 0] 29)); w'.cell? ⟨w.heap.size, 0, none⟩ = some (.func (.func 64) #[] #[.pointer (some ⟨tb, 0, none⟩)]) ∧ w'.cell? ⟨w.heap.size, 1, none⟩ = some (.func (.func 65) #[] #[.pointer (some ⟨tb, 0, none⟩)]) ∧ w'.cell? ⟨w.heap.size, 2, none⟩ = some (.func (.func 67) #[] #[.pointer (some ⟨tb, 0, none⟩), .pointer (some ⟨rb, 0, none⟩)])) := by
  have q := rdc_cells w rb tb
  have B := alloc_below (w.alloc (.cells (rdc rb tb) 69)) (.cells #[.bool false, .slice none 0 0, .slice none 0 0, .slice none 0 0] 29)
  exact ⟨below_cell B q.1, below_cell B q.2.1, below_cell B q.2.2⟩
set_option maxHeartbeats 16000000 in
theorem ninner_any (rb tb : Nat) (l : List UInt8) (w : World) (hR : Rk w (· < rb) rb tb l) :
    Calls Try.prog 56 #[.agg (rdc rb tb)] w (rdEnd (NodeP w.heap.size) (· < rb) rb tb (pInner l) w) := by
  have HB := hid (below2 w (.cells (rdc rb tb) 69) (.cells #[.bool false, .slice none 0 0, .slice none 0 0, .slice none 0 0] 29))
  have HCW : Hid (Chg (· = rb) w ((w.alloc (.cells (rdc rb tb) 69)).alloc (.cells #[.bool false, .slice none 0 0, .slice none 0 0, .slice none 0 0] 29))) := Chg.of_below HB.out
  have HR := hid (hR.below HB.out)
  have hrb := hR.lt
  have htb := hR.tlt
  have HWs : Hid (((w.alloc (.cells (rdc rb tb) 69)).alloc (.cells #[.bool false, .slice none 0 0, .slice none 0 0, .slice none 0 0] 29)).heap.size = w.heap.size + 2) := by show _ = _; simp
  have HSr : Hid (∀ w', Chg (· = rb) ((w.alloc (.cells (rdc rb tb) 69)).alloc (.cells #[.bool false, .slice none 0 0, .slice none 0 0, .slice none 0 0] 29)) w' → w'.cell? ⟨w.heap.size, 0, none⟩ = some (.func (.func 64) #[] #[.pointer (some ⟨tb, 0, none⟩)]) ∧ w'.cell? ⟨w.heap.size, 1, none⟩ = some (.func (.func 65) #[] #[.pointer (some ⟨tb, 0, none⟩)]) ∧ w'.cell? ⟨w.heap.size, 2, none⟩ = some (.func (.func 67) #[] #[.pointer (some ⟨tb, 0, none⟩), .pointer (some ⟨rb, 0, none⟩)])) := fun w' C =>
    have q := inner_boxes w rb tb
    ⟨C.cell q.1 (show ¬ w.heap.size = rb by omega), C.cell q.2.1 (show ¬ w.heap.size = rb by omega), C.cell q.2.2 (show ¬ w.heap.size = rb by omega)⟩
  have HZ : Hid (∀ w', Chg (· = rb) ((w.alloc (.cells (rdc rb tb) 69)).alloc (.cells #[.bool false, .slice none 0 0, .slice none 0 0, .slice none 0 0] 29)) w' → Bw w' (w.heap.size + 1) (.bool false) (.slice none 0 0) (.slice none 0 0) (.slice none 0 0)) := fun w' C => (Bw.new1 w (.cells (rdc rb tb) 69) (.bool false) (.slice none 0 0) (.slice none 0 0) (.slice none 0 0) 29).chg C (show ¬ w.heap.size + 1 = rb by omega)
  clear hR
  generalize hres : pInner l = res
  have HRes := hid hres.symm
  clear hres
  unfold rdc at *
  go_enter Try.func56, Try.ntmps56
  go_upto_region 1 with fail
  generalize hW : (w.alloc _).alloc _ = W at *
  clear hW
  obtain ⟨x0, x1, x2⟩ := HSr.out W (Chg.refl _ _)
  have A1 := hid (num2_any rb tb l W HR.out)
  unfold rdEnd at A1
  cases hx : p2 l with
  | none =>
    have HP : Hid (res = none) := by show _ = _; rw [HRes.out]; unfold pInner; rw [hx]; rfl
    rw [hx] at A1
    simp only [] at A1
    clear hx
    go_wp2_with (first
      | (go_at_call 64; with_reducible refine A1.out.mono ?_; rintro e w2 ⟨C2, rfl⟩)
      | fail)
    exact ⟨rfl, rd_none HP.out (HCW.out.trans C2 (fun _ _ h => h))⟩
  | some nx =>
    obtain ⟨N, r0⟩ := nx
    have hN := p2_lt hx
    rw [hx] at A1
    simp only [] at A1
    have A2 := hid (fun w' (h : Rk w' (· < rb) rb tb r0) => num2_any rb tb r0 w' h)
    unfold rdEnd at A2
    cases hy : p2 r0 with
    | none =>
      have HP : Hid (res = none) := by show _ = _; rw [HRes.out]; unfold pInner; rw [hx]; show (p2 r0).bind _ = none; rw [hy]; rfl
      rw [hy] at A2
      simp only [] at A2
      clear hx hy
      go_wp2_with (first
        | (go_at_call 64; with_reducible refine A1.out.mono ?_; rintro e w2 ⟨C2, vn, rfl, hvn, R2⟩; subst hvn; obtain ⟨x0', x1', x2'⟩ := HSr.out _ C2; have A3 := hid (A2.out w2 R2); have HC2 := hid C2; clear C2 R2)
        | (go_at_call 64; with_reducible refine A3.out.mono ?_; rintro e w3 ⟨C3, rfl⟩)
        | fail)
      exact ⟨rfl, rd_none HP.out (HCW.out.trans (HC2.out.trans C3 (fun _ _ h => h)) (fun _ _ h => h))⟩
    | some dx =>
      obtain ⟨d, r1⟩ := dx
      have hd := p2_lt hy
      have HR0 : Hid (res = (pKids N r1).map (fun x => ((⟨false, [], [] ++ x.1.1, [(d : Int)] ++ x.1.2⟩ : Nd), x.2))) := by show _ = _; rw [HRes.out]; unfold pInner; rw [hx]; show (p2 r0).bind _ = _; rw [hy]; rfl
      rw [hy] at A2
      simp only [] at A2
      clear hx hy HRes
      go_wp2_with (first
        | (go_at_call 64; with_reducible refine A1.out.mono ?_; rintro e w2 ⟨C2, vn, rfl, hvn, R2⟩; subst hvn; obtain ⟨x0', x1', x2'⟩ := HSr.out _ C2; have A3 := hid (A2.out w2 R2); have HC2 := hid C2; clear C2 R2)
        | (go_at_call 64; with_reducible refine A3.out.mono ?_; rintro e w3 ⟨C3, vd, rfl, hvd, R3⟩; subst hvd; have HC3 := hid (HC2.out.trans C3 (fun _ _ h => h)); have HR3 := hid R3; clear C3 R3)
        | fail)
      have hbs : w.heap.size + 2 ≤ w3.heap.size := by rw [← HWs.out]; exact HC3.out.size
      have HBl := hid (below2 w3 (.cells #[.int .i64 (d : Int)] 3) (.cells #[.bool false, .slice none 0 0, .slice none 0 0, .slice (some ⟨w3.heap.size, 0, none⟩) 1 1] 29))
      have HKD0 := hid (KD.start w3 w3.heap.size (Nat.le_refl _) (d : Int) (.cells #[.bool false, .slice none 0 0, .slice none 0 0, .slice (some ⟨w3.heap.size, 0, none⟩) 1 1] 29))
      have HX0 := hid (Bw.new1 w3 (.cells #[.int .i64 (d : Int)] 3) (.bool false) (.slice none 0 0) (.slice none 0 0) (.slice (some ⟨w3.heap.size, 0, none⟩) 1 1) 29)
      have HRl := hid (HR3.out.below HBl.out)
      have HCl : Hid (Chg (· = rb) W ((w3.alloc (.cells #[.int .i64 (d : Int)] 3)).alloc (.cells #[.bool false, .slice none 0 0, .slice none 0 0, .slice (some ⟨w3.heap.size, 0, none⟩) 1 1] 29))) := HC3.out.trans (Chg.of_below (F := (· = rb)) HBl.out) (fun _ _ h => h)
      have hbl : w3.heap.size + 2 ≤ ((w3.alloc (.cells #[.int .i64 (d : Int)] 3)).alloc (.cells #[.bool false, .slice none 0 0, .slice none 0 0, .slice (some ⟨w3.heap.size, 0, none⟩) 1 1] 29)).heap.size := by simp
      clear A1 A2 A3 x0 x1 x2 x0' x1' x2' HC2 HC3 HR3 HBl
      generalize hwl : (w3.alloc _).alloc _ = wl at *
      clear hwl
      generalize w3.heap.size = bs at *
      go_loopw [14] (fun i wr => ∃ (k : Nat) (ks : List (List UInt8)) (ds : List Int) (r : List UInt8) (kv dv : Value), i = .int .i64 (k : Int) ∧ k ≤ N ∧ ks.length = k ∧ ds.length = k + 1 ∧ Bw wr (bs + 1) (.bool false) (.slice none 0 0) kv dv ∧ KD wr bs (bs + 1) kv dv ks ds ∧ Rk wr (· < rb) rb tb r ∧ (∀ x ∈ ds, i64b x) ∧ res = (pKids (N - k) r).map (fun x => ((⟨false, [], ks ++ x.1.1, ds ++ x.1.2⟩ : Nd), x.2)) ∧ Chg (· = rb) W wr ∧ bs + 1 < wr.heap.size) (fun i _ => N - (RowKit.intOf i).toNat)
      case atStart => exact ⟨0, [], [(d : Int)], r1, _, _, rfl, Nat.zero_le _, rfl, rfl, HX0.out, HKD0.out, HRl.out, fun x hx => by rw [List.mem_singleton.1 hx]; exact i64_nat hd, HR0.out, HCl.out, by omega⟩
      case round =>
        obtain ⟨k, ks, ds, r, kv, dv, rfl, hk, hks, hds, X, KK, R, hi, hres, C, hxr⟩ := hrel
        obtain ⟨⟨p0, c0, hv0⟩, ⟨q0, d0, hv1⟩⟩ := KK.forms k (k + 1) hks hds
        subst hv0 hv1
        have HX := hid X
        have HKK := hid KK
        have HRr := hid R
        have HI := hid hi
        have HE := hid hres
        have HC := hid C
        have HLks := hid hks
        have HLds := hid hds
        have HxR := hid hxr
        have HbR : Hid (bs ≤ wr.heap.size) := by show _ ≤ _; omega
        have hWb : W.heap.size ≤ bs := by rw [HWs.out]; exact hbs
        have HTot : Hid (∀ w', Chg (· = rb) wr w' → Chg (· = rb) w w') := fun w' C' => (HCW.out.trans HC.out (fun _ _ h => h)).trans C' (fun _ _ h => h)
        clear X KK R hi hres C hks hds HR0 HRl HX0 HKD0 HCl
        by_cases hx : k < N
        · obtain ⟨m, hm⟩ : ∃ m, N - k = m + 1 := ⟨N - k - 1, by omega⟩
          have hm' : N - (k + 1) = m := by omega
          rw [hm] at HE
          have HS : Hid (∀ w', Chg (· = rb) wr w' → w'.cell? ⟨bs + 1, 2, none⟩ = some (.slice p0 k c0) ∧ w'.cell? ⟨w.heap.size, 0, none⟩ = some (.func (.func 64) #[] #[.pointer (some ⟨tb, 0, none⟩)]) ∧ w'.cell? ⟨w.heap.size, 1, none⟩ = some (.func (.func 65) #[] #[.pointer (some ⟨tb, 0, none⟩)]) ∧ w'.cell? ⟨w.heap.size, 2, none⟩ = some (.func (.func 67) #[] #[.pointer (some ⟨tb, 0, none⟩), .pointer (some ⟨rb, 0, none⟩)])) := fun w' C' => ⟨(HX.out.chg C' (show ¬ bs + 1 = rb by omega)).bx.c2, HSr.out _ (HC.out.trans C' (fun _ _ h => h))⟩
          have HA := hid (rkey_any rb tb r wr.drew (HRr.out.below (drew_below wr)))
          unfold rdEnd rdc at HA
          go_wp2
          have CC : Chg (· = rb) wr wr.drew := (Chg.refl _ _).drew
          cases hc : pKey r with
          | none =>
            have HP : Hid (res = none) := HE.out.trans (inner_none1 hc)
            rw [hc] at HA
            simp only [] at HA
            clear hc HE
            refine wp_region_z (z := 7) (S := fun w' => w'.cell? ⟨bs + 1, 2, none⟩ = some (.slice p0 k c0) ∧ w'.cell? ⟨w.heap.size, 0, none⟩ = some (.func (.func 64) #[] #[.pointer (some ⟨tb, 0, none⟩)]) ∧ w'.cell? ⟨w.heap.size, 1, none⟩ = some (.func (.func 65) #[] #[.pointer (some ⟨tb, 0, none⟩)]) ∧ w'.cell? ⟨w.heap.size, 2, none⟩ = some (.func (.func 67) #[] #[.pointer (some ⟨tb, 0, none⟩), .pointer (some ⟨rb, 0, none⟩)])) (by kernel_rfl) (HS.out _ CC) (fun hHeld => ?_)
            generalize hV : wr.drew = V at *
            clear hV
            refine wpZ_take (i := 0) (t := 16) (v := ?_) rfl rfl (by kernel_rfl) (by kernel_rfl) (by kernel_rfl) (by kernel_rfl) (fun _ _ _ h => h) (Or.inl ⟨by rfl, ?_⟩) (by assumption) ?_
            rotate_left
            · intro wq hSw
              try dsimp only at hSw
              go_simp
              try with_reducible rfl
            try go_frame
            refine wpZ_take (i := 1) (t := 17) (v := ?_) rfl rfl (by kernel_rfl) (by kernel_rfl) (by kernel_rfl) (by kernel_rfl) (fun _ _ _ h => h) (Or.inl ⟨by rfl, ?_⟩) (by assumption) ?_
            rotate_left
            · intro wq hSw
              try dsimp only at hSw
              go_simp
              try with_reducible rfl
            try go_frame
            refine wpZ_take (i := 2) (t := 18) (v := ?_) rfl rfl (by kernel_rfl) (by kernel_rfl) (by kernel_rfl) (by kernel_rfl) (fun _ _ _ h => h) (Or.inl ⟨by rfl, ?_⟩) (by assumption) ?_
            rotate_left
            · intro wq hSw
              try dsimp only at hSw
              go_simp
              try with_reducible rfl
            try go_frame
            refine wpZ_step (i := 3) (by kernel_rfl) rfl (fun K hK => ?_)
            go_simp
            go_wp2_with (first | (go_at_call 69; with_reducible refine HA.out.mono ?_; rintro e w4 ⟨C4, rfl⟩) | fail)
            exact ⟨rfl, rd_none HP.out ((HTot.out _ CC).trans C4 (fun _ _ h => h))⟩
          | some cx =>
            obtain ⟨key, ra⟩ := cx
            have HkL := hid (pKey_len hc)
            have HPk := hid hc
            rw [hc] at HA
            simp only [] at HA
            clear hc
            have HLen : Hid ((ks ++ [key]).length = k + 1) := by show _ = _; rw [List.length_append, HLks.out]; rfl
            have HLd : Hid (ds.length = k + 1) := HLds.out
            have HLk : Hid ((ks.length + 1) * 24 ≤ 140737488351232) := by show _ ≤ _; rw [HLks.out]; omega
            have HKk : Hid (∀ w', Chg (· = rb) wr w' → KD w' bs (bs + 1) (.slice p0 k c0) (.slice q0 (k + 1) d0) ks ds) := fun w' C' => HKK.out.chg C' (fun j e => Or.inl (by have h2 : j = rb := e; omega))
            have HFr : Hid (∀ j, wr.drew.heap.size ≤ j → bs ≤ j ∧ (Value.slice p0 k c0).ownBlock ≠ some j ∧ (Value.slice q0 (k + 1) d0).ownBlock ≠ some j ∧ j ≠ bs + 1) := fun j hj => by
              have hj' : wr.heap.size ≤ j := hj
              obtain ⟨b1, b2⟩ := HKK.out.blocks
              exact ⟨by omega, fun e => by have := b1 j e; omega, fun e => by have := b2 j e; omega, by omega⟩
            have HSp : Hid (∀ (cur : World) (v' : Value) (w' : World), Chg (· = rb) wr cur → Rk cur (· < rb) rb tb ra → (∀ wx, Past wx (.slice p0 k c0) v' cur w') → (w'.cell? ⟨bs + 1, 2, none⟩ = some (.slice p0 k c0) ∧ w'.cell? ⟨w.heap.size, 0, none⟩ = some (.func (.func 64) #[] #[.pointer (some ⟨tb, 0, none⟩)]) ∧ w'.cell? ⟨w.heap.size, 1, none⟩ = some (.func (.func 65) #[] #[.pointer (some ⟨tb, 0, none⟩)]) ∧ w'.cell? ⟨w.heap.size, 2, none⟩ = some (.func (.func 67) #[] #[.pointer (some ⟨tb, 0, none⟩), .pointer (some ⟨rb, 0, none⟩)])) ∧ Bw w' (bs + 1) (.bool false) (.slice none 0 0) (.slice p0 k c0) (.slice q0 (k + 1) d0) ∧ Chg (· = rb) W w' ∧ Rk w' (· < rb) rb tb ra) := fun cur v' w' C' R' P => by
              have hob := HKK.out.blocks.1
              have X5 := (HX.out.chg C' (show ¬ bs + 1 = rb by omega)).chg (past_chg P) (fun e => (hob _ e).2.2 rfl)
              have CT : Chg (· = rb) W w' := chgF_past (HC.out.trans C' (fun _ _ h => h)) P (fun j e => by have := hob j e; omega)
              exact ⟨⟨X5.bx.c2, HSr.out _ CT⟩, X5, CT, R'.kept (past_chg P) (fun j e => by have := hob _ e; omega)⟩
            refine wp_region_z (z := 7) (S := fun w' => w'.cell? ⟨bs + 1, 2, none⟩ = some (.slice p0 k c0) ∧ w'.cell? ⟨w.heap.size, 0, none⟩ = some (.func (.func 64) #[] #[.pointer (some ⟨tb, 0, none⟩)]) ∧ w'.cell? ⟨w.heap.size, 1, none⟩ = some (.func (.func 65) #[] #[.pointer (some ⟨tb, 0, none⟩)]) ∧ w'.cell? ⟨w.heap.size, 2, none⟩ = some (.func (.func 67) #[] #[.pointer (some ⟨tb, 0, none⟩), .pointer (some ⟨rb, 0, none⟩)])) (by kernel_rfl) (HS.out _ CC) (fun hHeld => ?_)
            generalize hV : wr.drew = V at *
            clear hV
            refine wpZ_take (i := 0) (t := 16) (v := ?_) rfl rfl (by kernel_rfl) (by kernel_rfl) (by kernel_rfl) (by kernel_rfl) (fun _ _ _ h => h) (Or.inl ⟨by rfl, ?_⟩) (by assumption) ?_
            rotate_left
            · intro wq hSw
              try dsimp only at hSw
              go_simp
              try with_reducible rfl
            try go_frame
            refine wpZ_take (i := 1) (t := 17) (v := ?_) rfl rfl (by kernel_rfl) (by kernel_rfl) (by kernel_rfl) (by kernel_rfl) (fun _ _ _ h => h) (Or.inl ⟨by rfl, ?_⟩) (by assumption) ?_
            rotate_left
            · intro wq hSw
              try dsimp only at hSw
              go_simp
              try with_reducible rfl
            try go_frame
            refine wpZ_take (i := 2) (t := 18) (v := ?_) rfl rfl (by kernel_rfl) (by kernel_rfl) (by kernel_rfl) (by kernel_rfl) (fun _ _ _ h => h) (Or.inl ⟨by rfl, ?_⟩) (by assumption) ?_
            rotate_left
            · intro wq hSw
              try dsimp only at hSw
              go_simp
              try with_reducible rfl
            try go_frame
            refine wpZ_step (i := 3) (by kernel_rfl) rfl (fun K hK => ?_)
            go_simp
            go_wp2_with (first | (go_at_call 69; with_reducible refine HA.out.mono ?_; rintro e w4 ⟨C4, vk, rfl, O4, R4⟩; obtain ⟨pk, ck, hvk, _⟩ := O4.form; subst hvk; replace CC := CC.trans C4 (fun _ _ h => h); replace RR := R4; clear C4 R4) | fail)
            refine hK.out _ _ (fun _ => HS.out _ CC) (fun hHeldN => ?_)
            replace hHeld := hHeldN (by decide)
            clear hK K hHeldN
            try go_frame
            refine wpZ_step (i := 4) (by kernel_rfl) rfl (fun K hK => ?_)
            go_simp
            replace CC := CC.alloc (.cells #[.slice pk key.length ck] 31)
            refine hK.out _ _ (fun _ => HS.out _ CC) (fun hHeldN => ?_)
            replace hHeld := hHeldN (by decide)
            clear hK K hHeldN
            try go_frame
            refine wpZ_step (i := 5) (by kernel_rfl) rfl (fun K hK => ?_)
            refine stKey (HKk.out _ CC) (by go_simp) ((O4.bv HkL.out).below (alloc_below _ _)) HFr.out rfl rfl rfl rfl HLk.out (Nat.le_trans HbR.out CC.size) (Nat.lt_of_lt_of_le HxR.out CC.size) ?_
            intro v5 w5 K5 P5
            obtain ⟨S5, XB, C5, R5⟩ := HSp.out _ v5 w5 CC (RR.below (alloc_below w4 (.cells #[.slice pk key.length ck] 31))) P5
            obtain ⟨⟨p5, c5, hv5⟩, _⟩ := K5.forms (k + 1) (k + 1) HLen.out HLd.out
            subst hv5
            have q1 := XB.bx.c2
            have f1 := XB.fz 2
            have HK5 := hid K5
            have HX5 := hid XB
            have HC5 := hid C5
            have HR5 := hid R5
            clear K5 XB C5 P5 R5 O4
            refine hK.out _ _ (fun _ => S5) (fun hHeldN => ?_)
            replace hHeld := hHeldN (by decide)
            clear hK K hHeldN
            try go_frame
            refine wpZ_take (i := 6) (t := 22) (v := ?_) rfl rfl (by kernel_rfl) (by kernel_rfl) (by kernel_rfl) (by kernel_rfl) (fun _ _ _ h => h) (Or.inl ⟨by rfl, ?_⟩) (by assumption) ?_
            rotate_left
            · intro wq hSw
              try dsimp only at hSw
              go_simp
              try with_reducible rfl
            try go_frame
            refine wpZ_step (i := 7) (by kernel_rfl) rfl (fun K hK => ?_)
            go_simp
            refine hK.out _ _ (fun h => absurd rfl h) (fun _ => ?_)
            clear hK K
            refine wpZ_done (by kernel_rfl) ?_
            have HXy := hid (HX5.out.set2 (.slice p5 (k + 1) c5))
            have HKy := hid (HK5.out.chg (chg_set1 w5 (bs + 1) 2 (.slice p5 (k + 1) c5)) (fun j e => Or.inr e))
            have HRy := hid (HR5.out.put (chg_set1 w5 (bs + 1) 2 (.slice p5 (k + 1) c5)) (by omega) (by omega))
            have HCy := hid (HC5.out.setCell (p := ⟨bs + 1, 2, none⟩) (Or.inr (show W.heap.size ≤ bs + 1 by omega)) (.slice p5 (k + 1) c5))
            clear HK5 HX5 HC5 HR5 HS HA HKk HFr HSp CC HX HKK HRr HC S5 HLk HTot HxR HbR
            generalize w5.setCell _ _ = wy at *
            have hxr2 : bs + 1 < wy.heap.size := HXy.out.lt
            have HxR2 := hid hxr2
            have HbR2 : Hid (bs ≤ wy.heap.size) := by show _ ≤ _; omega
            have HTot2 : Hid (∀ w', Chg (· = rb) wy w' → Chg (· = rb) w w') := fun w' C' => (HCW.out.trans HCy.out (fun _ _ h => h)).trans C' (fun _ _ h => h)
            have HS : Hid (∀ w', Chg (· = rb) wy w' → w'.cell? ⟨bs + 1, 3, none⟩ = some (.slice q0 (k + 1) d0) ∧ w'.cell? ⟨w.heap.size, 0, none⟩ = some (.func (.func 64) #[] #[.pointer (some ⟨tb, 0, none⟩)]) ∧ w'.cell? ⟨w.heap.size, 1, none⟩ = some (.func (.func 65) #[] #[.pointer (some ⟨tb, 0, none⟩)]) ∧ w'.cell? ⟨w.heap.size, 2, none⟩ = some (.func (.func 67) #[] #[.pointer (some ⟨tb, 0, none⟩), .pointer (some ⟨rb, 0, none⟩)])) := fun w' C' => ⟨(HXy.out.chg C' (show ¬ bs + 1 = rb by omega)).bx.c3, HSr.out _ (HCy.out.trans C' (fun _ _ h => h))⟩
            have HA2 := hid (num2_any rb tb ra wy.drew (HRy.out.below (drew_below wy)))
            unfold rdEnd at HA2
            go_wp2
            have CC : Chg (· = rb) wy wy.drew := (Chg.refl _ _).drew
            cases hc : p2 ra with
            | none =>
              have HP : Hid (res = none) := HE.out.trans (inner_none2 HPk.out hc)
              rw [hc] at HA2
              simp only [] at HA2
              clear hc HE
              refine wp_region_z (z := 8) (S := fun w' => w'.cell? ⟨bs + 1, 3, none⟩ = some (.slice q0 (k + 1) d0) ∧ w'.cell? ⟨w.heap.size, 0, none⟩ = some (.func (.func 64) #[] #[.pointer (some ⟨tb, 0, none⟩)]) ∧ w'.cell? ⟨w.heap.size, 1, none⟩ = some (.func (.func 65) #[] #[.pointer (some ⟨tb, 0, none⟩)]) ∧ w'.cell? ⟨w.heap.size, 2, none⟩ = some (.func (.func 67) #[] #[.pointer (some ⟨tb, 0, none⟩), .pointer (some ⟨rb, 0, none⟩)])) (by kernel_rfl) (HS.out _ CC) (fun hHeld => ?_)
              generalize hV : wy.drew = V at *
              clear hV
              refine wpZ_take (i := 0) (t := 23) (v := ?_) rfl rfl (by kernel_rfl) (by kernel_rfl) (by kernel_rfl) (by kernel_rfl) (fun _ _ _ h => h) (Or.inl ⟨by rfl, ?_⟩) (by assumption) ?_
              rotate_left
              · intro wq hSw
                try dsimp only at hSw
                go_simp
                try with_reducible rfl
              try go_frame
              refine wpZ_take (i := 1) (t := 24) (v := ?_) rfl rfl (by kernel_rfl) (by kernel_rfl) (by kernel_rfl) (by kernel_rfl) (fun _ _ _ h => h) (Or.inl ⟨by rfl, ?_⟩) (by assumption) ?_
              rotate_left
              · intro wq hSw
                try dsimp only at hSw
                go_simp
                try with_reducible rfl
              try go_frame
              refine wpZ_take (i := 2) (t := 25) (v := ?_) rfl rfl (by kernel_rfl) (by kernel_rfl) (by kernel_rfl) (by kernel_rfl) (fun _ _ _ h => h) (Or.inl ⟨by rfl, ?_⟩) (by assumption) ?_
              rotate_left
              · intro wq hSw
                try dsimp only at hSw
                go_simp
                try with_reducible rfl
              try go_frame
              refine wpZ_take (i := 3) (t := 26) (v := ?_) rfl rfl (by kernel_rfl) (by kernel_rfl) (by kernel_rfl) (by kernel_rfl) (fun _ _ _ h => h) (Or.inl ⟨by rfl, ?_⟩) (by assumption) ?_
              rotate_left
              · intro wq hSw
                try dsimp only at hSw
                go_simp
                try with_reducible rfl
              try go_frame
              refine wpZ_step (i := 4) (by kernel_rfl) rfl (fun K hK => ?_)
              go_simp
              refine HA2.out.mono ?_
              rintro e w6 ⟨C6, rfl⟩
              try dsimp only
              exact ⟨rfl, rd_none HP.out ((HTot2.out _ CC).trans C6 (fun _ _ h => h))⟩
            | some ex =>
              obtain ⟨e, r'⟩ := ex
              have he := p2_lt hc
              have HE2 := hid (HE.out.trans (inner_step HPk.out hc))
              rw [hc] at HA2
              simp only [] at HA2
              clear hc HE
              have HLd2 : Hid ((ds ++ [(e : Int)]).length = k + 2) := by show _ = _; rw [List.length_append, HLds.out]; rfl
              have HLk2 : Hid ((ds.length + 1) * 8 ≤ 140737488351232) := by show _ ≤ _; rw [HLds.out]; omega
              have HKk2 : Hid (∀ w', Chg (· = rb) wy w' → KD w' bs (bs + 1) (.slice p5 (k + 1) c5) (.slice q0 (k + 1) d0) (ks ++ [key]) ds) := fun w' C' => HKy.out.chg C' (fun j e => Or.inl (by have h2 : j = rb := e; omega))
              have HSp2 : Hid (∀ (cur : World) (v' : Value) (w' : World), Chg (· = rb) wy cur → Rk cur (· < rb) rb tb r' → (∀ wx, Past wx (.slice q0 (k + 1) d0) v' cur w') → (w'.cell? ⟨bs + 1, 3, none⟩ = some (.slice q0 (k + 1) d0) ∧ w'.cell? ⟨w.heap.size, 0, none⟩ = some (.func (.func 64) #[] #[.pointer (some ⟨tb, 0, none⟩)]) ∧ w'.cell? ⟨w.heap.size, 1, none⟩ = some (.func (.func 65) #[] #[.pointer (some ⟨tb, 0, none⟩)]) ∧ w'.cell? ⟨w.heap.size, 2, none⟩ = some (.func (.func 67) #[] #[.pointer (some ⟨tb, 0, none⟩), .pointer (some ⟨rb, 0, none⟩)])) ∧ Bw w' (bs + 1) (.bool false) (.slice none 0 0) (.slice p5 (k + 1) c5) (.slice q0 (k + 1) d0) ∧ Chg (· = rb) W w' ∧ Rk w' (· < rb) rb tb r') := fun cur v' w' C' R' P => by
                have hob := HKy.out.blocks.2
                have X5 := (HXy.out.chg C' (show ¬ bs + 1 = rb by omega)).chg (past_chg P) (fun e => (hob _ e).2.2 rfl)
                have CT : Chg (· = rb) W w' := chgF_past (HCy.out.trans C' (fun _ _ h => h)) P (fun j e => by have := hob j e; omega)
                exact ⟨⟨X5.bx.c3, HSr.out _ CT⟩, X5, CT, R'.kept (past_chg P) (fun j e => by have := hob _ e; omega)⟩
              refine wp_region_z (z := 8) (S := fun w' => w'.cell? ⟨bs + 1, 3, none⟩ = some (.slice q0 (k + 1) d0) ∧ w'.cell? ⟨w.heap.size, 0, none⟩ = some (.func (.func 64) #[] #[.pointer (some ⟨tb, 0, none⟩)]) ∧ w'.cell? ⟨w.heap.size, 1, none⟩ = some (.func (.func 65) #[] #[.pointer (some ⟨tb, 0, none⟩)]) ∧ w'.cell? ⟨w.heap.size, 2, none⟩ = some (.func (.func 67) #[] #[.pointer (some ⟨tb, 0, none⟩), .pointer (some ⟨rb, 0, none⟩)])) (by kernel_rfl) (HS.out _ CC) (fun hHeld => ?_)
              generalize hV : wy.drew = V at *
              clear hV
              refine wpZ_take (i := 0) (t := 23) (v := ?_) rfl rfl (by kernel_rfl) (by kernel_rfl) (by kernel_rfl) (by kernel_rfl) (fun _ _ _ h => h) (Or.inl ⟨by rfl, ?_⟩) (by assumption) ?_
              rotate_left
              · intro wq hSw
                try dsimp only at hSw
                go_simp
                try with_reducible rfl
              try go_frame
              refine wpZ_take (i := 1) (t := 24) (v := ?_) rfl rfl (by kernel_rfl) (by kernel_rfl) (by kernel_rfl) (by kernel_rfl) (fun _ _ _ h => h) (Or.inl ⟨by rfl, ?_⟩) (by assumption) ?_
              rotate_left
              · intro wq hSw
                try dsimp only at hSw
                go_simp
                try with_reducible rfl
              try go_frame
              refine wpZ_take (i := 2) (t := 25) (v := ?_) rfl rfl (by kernel_rfl) (by kernel_rfl) (by kernel_rfl) (by kernel_rfl) (fun _ _ _ h => h) (Or.inl ⟨by rfl, ?_⟩) (by assumption) ?_
              rotate_left
              · intro wq hSw
                try dsimp only at hSw
                go_simp
                try with_reducible rfl
              try go_frame
              refine wpZ_take (i := 3) (t := 26) (v := ?_) rfl rfl (by kernel_rfl) (by kernel_rfl) (by kernel_rfl) (by kernel_rfl) (fun _ _ _ h => h) (Or.inl ⟨by rfl, ?_⟩) (by assumption) ?_
              rotate_left
              · intro wq hSw
                try dsimp only at hSw
                go_simp
                try with_reducible rfl
              try go_frame
              refine wpZ_step (i := 4) (by kernel_rfl) rfl (fun K hK => ?_)
              go_simp
              refine HA2.out.mono ?_
              rintro e w6 ⟨C6, ve, rfl, hve, R6⟩
              subst hve
              replace CC := CC.trans C6 (fun _ _ h => h)
              replace RR := R6
              clear C6 R6
              try dsimp only
              refine hK.out _ _ (fun _ => HS.out _ CC) (fun hHeldN => ?_)
              replace hHeld := hHeldN (by decide)
              clear hK K hHeldN
              try go_frame
              refine wpZ_step (i := 5) (by kernel_rfl) rfl (fun K hK => ?_)
              go_simp
              replace CC := CC.alloc (.cells #[.int .i64 (e : Int)] 3)
              refine hK.out _ _ (fun _ => HS.out _ CC) (fun hHeldN => ?_)
              replace hHeld := hHeldN (by decide)
              clear hK K hHeldN
              try go_frame
              refine wpZ_step (i := 6) (by kernel_rfl) rfl (fun K hK => ?_)
              refine stKid (n := (e : Int)) (HKk2.out _ CC) (by go_simp) rfl rfl rfl rfl HLk2.out (Nat.le_trans HbR2.out CC.size) (Nat.lt_of_lt_of_le HxR2.out CC.size) ?_
              intro v7 w7 K7 P7
              obtain ⟨S7, XB, C7, R7⟩ := HSp2.out _ v7 w7 CC (RR.below (alloc_below w6 (.cells #[.int .i64 (e : Int)] 3))) P7
              obtain ⟨_, ⟨q7, d7, hv7⟩⟩ := K7.forms (k + 1) (k + 2) HLen.out HLd2.out
              subst hv7
              have q1 := XB.bx.c3
              have f1 := XB.fz 3
              have HK7 := hid K7
              have HX7 := hid XB
              have HC7 := hid C7
              have HR7 := hid R7
              clear K7 XB C7 P7 R7
              refine hK.out _ _ (fun _ => S7) (fun hHeldN => ?_)
              replace hHeld := hHeldN (by decide)
              clear hK K hHeldN
              try go_frame
              refine wpZ_take (i := 7) (t := 30) (v := ?_) rfl rfl (by kernel_rfl) (by kernel_rfl) (by kernel_rfl) (by kernel_rfl) (fun _ _ _ h => h) (Or.inl ⟨by rfl, ?_⟩) (by assumption) ?_
              rotate_left
              · intro wq hSw
                try dsimp only at hSw
                go_simp
                try with_reducible rfl
              try go_frame
              refine wpZ_step (i := 8) (by kernel_rfl) rfl (fun K hK => ?_)
              go_simp
              refine hK.out _ _ (fun h => absurd rfl h) (fun _ => ?_)
              clear hK K
              refine wpZ_done (by kernel_rfl) ?_
              go_wp2
              go_roundw
              case rel => exact ⟨k + 1, ks ++ [key], ds ++ [(e : Int)], r', _, _, by go_num, by omega, HLen.out, HLd2.out, HX7.out.set3 _, HK7.out.chg (chg_set1 _ _ _ _) (fun j e => Or.inr e), HR7.out.put (chg_set1 _ _ _ _) (by omega) (by omega), fun x hx => by rcases List.mem_append.1 hx with h | h; exact HI.out x h; rw [List.mem_singleton.1 h]; exact i64_nat he, by rw [hm']; exact HE2.out, HC7.out.setCell (p := ⟨bs + 1, 3, none⟩) (Or.inr (show W.heap.size ≤ bs + 1 by omega)) _, (HX7.out.set3 _).lt⟩
              case measure => simp [RowKit.intOf]; omega
        · obtain rfl : k = N := by omega
          have HP : Hid (res = some (⟨false, [], ks, ds⟩, r)) := by
            show _ = _
            rw [HE.out, Nat.sub_self]
            simp [pKids]
          obtain ⟨⟨t0, t1, t2, t3⟩, tf⟩ := HX.out
          obtain ⟨⟨z0, z1, z2, z3⟩, zf⟩ := HZ.out _ HC.out
          have y0 := zf 0
          have y1 := zf 1
          have y2 := zf 2
          have y3 := zf 3
          have HNV : Hid (∀ y0 y1 y2 y3, NV ((((wr.setCell ⟨w.heap.size + 1, 0, none⟩ y0).setCell ⟨w.heap.size + 1, 1, none⟩ y1).setCell ⟨w.heap.size + 1, 2, none⟩ y2).setCell ⟨w.heap.size + 1, 3, none⟩ y3) (w.heap.size ≤ ·) (.slice none 0 0) (.slice p0 k c0) (.slice q0 (k + 1) d0) ⟨false, [], ks, ds⟩) := fun y0 y1 y2 y3 => by
            obtain ⟨b1, b2⟩ := (HKK.out.chg (chg4 wr (w.heap.size + 1) y0 y1 y2 y3) (fun j e => Or.inl (by have h2 : j = w.heap.size + 1 := e; omega))).both (by rw [HLks.out]; omega) (by rw [HLds.out]; omega) HI.out
            exact ⟨CsV.nil _ _, b1.mono (fun j _ hj => by have h1 : bs ≤ j := hj; omega), b2.mono (fun j _ hj => by have h1 : bs ≤ j := hj; omega)⟩
          have HRf : Hid (∀ y0 y1 y2 y3, Rk ((((wr.setCell ⟨w.heap.size + 1, 0, none⟩ y0).setCell ⟨w.heap.size + 1, 1, none⟩ y1).setCell ⟨w.heap.size + 1, 2, none⟩ y2).setCell ⟨w.heap.size + 1, 3, none⟩ y3) (· < rb) rb tb r) := fun y0 y1 y2 y3 => HRr.out.put (chg4 wr (w.heap.size + 1) y0 y1 y2 y3) (by omega) (by omega)
          have HCf := hid (HTot.out wr (Chg.refl _ _))
          clear HKK HE HX HSr HZ
          go_wp2
          refine bodyPost_ret (by simp [results, Try.results56, go_sem, z0, z1, z2, z3]; try rfl) rfl ?_
          exact rd_some HP.out (chg_put4 HCf.out (by omega) _ _ _ _) ⟨_, _, _, rfl, HNV.out _ _ _ _⟩ (HRf.out _ _ _ _)
end Go.Proofs.Ytilmlegkkgiahaa
