/- What (reader).node and Decode's own work of package node do: the node that a load goes on with, or what is thrown. Condition: the bytes lie within the reach. -/
import Derived.Test.YtilmlegkkgiahaaNdInner
import Derived.Test.YtilmlegkkgiahaaNdRight
namespace Go.Proofs.Ytilmlegkkgiahaa
open Go.RowKit Go.Lib
set_option linter.unusedVariables false
set_option maxRecDepth 20000

def pNode (l : List UInt8) : Option (Nd × List UInt8) := (p1 l).bind fun t => if t.1 = 1 then pLeaf t.2 else if t.1 = 2 then pInner t.2 else none
def pDec (l : List UInt8) : Option (Nd × List UInt8) := (pNode l).bind fun x => if x.1.err = 0 then some x else none
theorem NodeP.parts {base : Nat} {w : World} {v : Value} {n : Nd} (h : NodeP base w v n) : ∃ pc cc pk ck pd cd, v = .agg #[.bool n.leaf, .slice pc n.cells.length cc, .slice pk n.keys.length ck, .slice pd n.kids.length cd] ∧ NV w (base ≤ ·) (.slice pc n.cells.length cc) (.slice pk n.keys.length ck) (.slice pd n.kids.length cd) n := by
  obtain ⟨cv, kv, dv, rfl, h⟩ := h
  obtain ⟨⟨pc, cc, rfl, _⟩, ⟨pk, ck, rfl, _⟩, ⟨pd, cd, rfl, _⟩⟩ := id h
  exact ⟨pc, cc, pk, ck, pd, cd, rfl, h⟩
theorem fin_nv {w : World} {cv kv dv y0 y1 y2 y3 : Value} {n : Nd} {b z base : Nat} (h : NV w (b ≤ ·) cv kv dv n) (hz : z < b) (hb : base ≤ b) : NV ((((w.setCell ⟨z, 0, none⟩ y0).setCell ⟨z, 1, none⟩ y1).setCell ⟨z, 2, none⟩ y2).setCell ⟨z, 3, none⟩ y3) (base ≤ ·) cv kv dv n :=
  (h.kp (Kp.of_chg (chg4 w z y0 y1 y2 y3) (fun j hj e => by have h1 : b ≤ j := hj; have h2 : j = z := e; omega))).mono (fun j _ hj => Nat.le_trans hb hj)
set_option maxHeartbeats 8000000 in
theorem nnode_any (rb tb : Nat) (l : List UInt8) (w : World) (hR : Rk w (· < rb) rb tb l) :
    Calls Try.prog 37 #[.agg (rdc rb tb)] w (rdEnd (NodeP w.heap.size) (· < rb) rb tb (pNode l) w) := by
  have HB := hid (below2 w (.cells (rdc rb tb) 69) (.cells #[.bool false, .slice none 0 0, .slice none 0 0, .slice none 0 0] 29))
  have HCW : Hid (Chg (· = rb) w ((w.alloc (.cells (rdc rb tb) 69)).alloc (.cells #[.bool false, .slice none 0 0, .slice none 0 0, .slice none 0 0] 29))) := Chg.of_below HB.out
  have HR := hid (hR.below HB.out)
  have hrb := hR.lt
  have htb := hR.tlt
  have HWs : Hid (((w.alloc (.cells (rdc rb tb) 69)).alloc (.cells #[.bool false, .slice none 0 0, .slice none 0 0, .slice none 0 0] 29)).heap.size = w.heap.size + 2) := by show _ = _; simp
  have HSr : Hid (∀ w', Chg (· = rb) ((w.alloc (.cells (rdc rb tb) 69)).alloc (.cells #[.bool false, .slice none 0 0, .slice none 0 0, .slice none 0 0] 29)) w' → w'.cell? ⟨w.heap.size, 0, none⟩ = some (.func (.func 64) #[] #[.pointer (some ⟨tb, 0, none⟩)]) ∧ w'.cell? ⟨w.heap.size, 1, none⟩ = some (.func (.func 65) #[] #[.pointer (some ⟨tb, 0, none⟩)]) ∧ w'.cell? ⟨w.heap.size, 2, none⟩ = some (.func (.func 67) #[] #[.pointer (some ⟨tb, 0, none⟩), .pointer (some ⟨rb, 0, none⟩)])) := fun w' C =>
    have q := inner_boxes w rb tb
    ⟨C.cell q.1 (show ¬ w.heap.size = rb by omega), C.cell q.2.1 (show ¬ w.heap.size = rb by omega), C.cell q.2.2 (show ¬ w.heap.size = rb by omega)⟩
  have HZ : Hid (∀ w', Chg (· = rb) ((w.alloc (.cells (rdc rb tb) 69)).alloc (.cells #[.bool false, .slice none 0 0, .slice none 0 0, .slice none 0 0] 29)) w' → Bw w' (w.heap.size + 1) (.bool false) (.slice none 0 0) (.slice none 0 0) (.slice none 0 0)) := fun w' C => (Bw.new1 w (.cells (rdc rb tb) 69) (.bool false) (.slice none 0 0) (.slice none 0 0) (.slice none 0 0) 29).chg C (show ¬ w.heap.size + 1 = rb by omega)
  clear hR
  generalize hres : pNode l = res
  have HRes := hid hres.symm
  clear hres
  unfold rdc at *
  go_enter Try.func37, Try.ntmps37
  go_upto_region 1 with fail
  generalize hW : (w.alloc _).alloc _ = W at *
  clear hW
  obtain ⟨x0, x1, x2⟩ := HSr.out W (Chg.refl _ _)
  have A1 := hid (num1_any rb tb l W HR.out)
  unfold rdEnd at A1
  cases hx : p1 l with
  | none =>
    have HP : Hid (res = none) := by show _ = _; rw [HRes.out]; unfold pNode; rw [hx]; rfl
    rw [hx] at A1
    simp only [] at A1
    clear hx
    go_wp2_with (first
      | (go_at_call 64; with_reducible refine A1.out.mono ?_; rintro e w2 ⟨C2, rfl⟩)
      | fail)
    exact ⟨rfl, rd_none HP.out (HCW.out.trans C2 (fun _ _ h => h))⟩
  | some tx =>
    obtain ⟨t, r⟩ := tx
    have HP1 : Hid (res = if t = 1 then pLeaf r else if t = 2 then pInner r else none) := by show _ = _; rw [HRes.out]; unfold pNode; rw [hx]; rfl
    rw [hx] at A1
    simp only [] at A1
    clear hx HRes
    by_cases h1 : t = 1
    · subst h1
      have HP0 : Hid (res = pLeaf r) := HP1.out.trans (if_pos rfl)
      clear HP1
      have A2 := hid (fun w' (h : Rk w' (· < rb) rb tb r) => nleaf_any rb tb r w' h)
      unfold rdEnd rdc at A2
      cases hy : pLeaf r with
      | none =>
        have HP : Hid (res = none) := HP0.out.trans hy
        rw [hy] at A2
        simp only [] at A2
        clear hy
        go_wp2_with (first
          | (go_at_call 64; with_reducible refine A1.out.mono ?_; rintro e w2 ⟨C2, vn, rfl, hvn, R2⟩; subst hvn; obtain ⟨x0', x1', x2'⟩ := HSr.out _ C2; have A3 := hid (A2.out w2 R2); have HC2 := hid C2; clear C2 R2)
          | (go_at_call 55; with_reducible refine A3.out.mono ?_; rintro e w3 ⟨C3, rfl⟩)
          | fail)
        exact ⟨rfl, rd_none HP.out (HCW.out.trans (HC2.out.trans C3 (fun _ _ h => h)) (fun _ _ h => h))⟩
      | some nx =>
        obtain ⟨n, q⟩ := nx
        have HP : Hid (res = some (n, q)) := HP0.out.trans hy
        rw [hy] at A2
        simp only [] at A2
        clear hy
        go_wp2_with (first
          | (go_at_call 64; with_reducible refine A1.out.mono ?_; rintro e w2 ⟨C2, vn, rfl, hvn, R2⟩; subst hvn; obtain ⟨x0', x1', x2'⟩ := HSr.out _ C2; have A3 := hid (A2.out w2 R2); have HC2 := hid C2; clear C2 R2)
          | (go_at_call 55; with_reducible refine A3.out.mono ?_; rintro e w3 ⟨C3, va, rfl, hnp, R3⟩; obtain ⟨pc, cc, pk, ck, pd, cd, hva, N3⟩ := hnp.parts; subst hva; have C3' := HC2.out.trans C3 (fun _ _ h => h); have Z3 := HZ.out _ C3'; obtain ⟨⟨z0, z1, z2, z3⟩, zf⟩ := Z3; have y0 := zf 0; have y1 := zf 1; have y2 := zf 2; have y3 := zf 3; have HC3 := hid C3'; have HN3 := hid N3; have HR3 := hid R3; clear C3 C3' N3 R3 hnp)
          | fail)
        have hw2 : w.heap.size + 2 ≤ w2.heap.size := by rw [← HWs.out]; exact HC2.out.size
        refine bodyPost_ret (by simp [results, Try.results37, go_sem, z0, z1, z2, z3]; try rfl) rfl ?_
        exact rd_some HP.out (chg_put4 (HCW.out.trans HC3.out (fun _ _ h => h)) (by omega) _ _ _ _) ⟨_, _, _, rfl, fin_nv HN3.out (by omega) (by omega)⟩ (HR3.out.put (chg4 _ _ _ _ _ _) (by omega) (by omega))
    · by_cases h2 : t = 2
      · subst h2
        have HP0 : Hid (res = pInner r) := HP1.out.trans ((if_neg h1).trans (if_pos rfl))
        clear HP1
        have A2 := hid (fun w' (h : Rk w' (· < rb) rb tb r) => ninner_any rb tb r w' h)
        unfold rdEnd rdc at A2
        cases hy : pInner r with
        | none =>
          have HP : Hid (res = none) := HP0.out.trans hy
          rw [hy] at A2
          simp only [] at A2
          clear hy
          go_wp2_with (first
            | (go_at_call 64; with_reducible refine A1.out.mono ?_; rintro e w2 ⟨C2, vn, rfl, hvn, R2⟩; subst hvn; obtain ⟨x0', x1', x2'⟩ := HSr.out _ C2; have A3 := hid (A2.out w2 R2); have HC2 := hid C2; clear C2 R2)
            | (go_at_call 56; with_reducible refine A3.out.mono ?_; rintro e w3 ⟨C3, rfl⟩)
            | fail)
          exact ⟨rfl, rd_none HP.out (HCW.out.trans (HC2.out.trans C3 (fun _ _ h => h)) (fun _ _ h => h))⟩
        | some nx =>
          obtain ⟨n, q⟩ := nx
          have HP : Hid (res = some (n, q)) := HP0.out.trans hy
          rw [hy] at A2
          simp only [] at A2
          clear hy
          go_wp2_with (first
            | (go_at_call 64; with_reducible refine A1.out.mono ?_; rintro e w2 ⟨C2, vn, rfl, hvn, R2⟩; subst hvn; obtain ⟨x0', x1', x2'⟩ := HSr.out _ C2; have A3 := hid (A2.out w2 R2); have HC2 := hid C2; clear C2 R2)
            | (go_at_call 56; with_reducible refine A3.out.mono ?_; rintro e w3 ⟨C3, va, rfl, hnp, R3⟩; obtain ⟨pc, cc, pk, ck, pd, cd, hva, N3⟩ := hnp.parts; subst hva; have C3' := HC2.out.trans C3 (fun _ _ h => h); have Z3 := HZ.out _ C3'; obtain ⟨⟨z0, z1, z2, z3⟩, zf⟩ := Z3; have y0 := zf 0; have y1 := zf 1; have y2 := zf 2; have y3 := zf 3; have HC3 := hid C3'; have HN3 := hid N3; have HR3 := hid R3; clear C3 C3' N3 R3 hnp)
            | fail)
          have hw2 : w.heap.size + 2 ≤ w2.heap.size := by rw [← HWs.out]; exact HC2.out.size
          refine bodyPost_ret (by simp [results, Try.results37, go_sem, z0, z1, z2, z3]; try rfl) rfl ?_
          exact rd_some HP.out (chg_put4 (HCW.out.trans HC3.out (fun _ _ h => h)) (by omega) _ _ _ _) ⟨_, _, _, rfl, fin_nv HN3.out (by omega) (by omega)⟩ (HR3.out.put (chg4 _ _ _ _ _ _) (by omega) (by omega))
      · have HP : Hid (res = none) := HP1.out.trans ((if_neg h1).trans (if_neg h2))
        clear HP1
        go_wp2_with (first
          | (go_at_call 64; with_reducible refine A1.out.mono ?_; rintro e w2 ⟨C2, vn, rfl, hvn, R2⟩; subst hvn; have HC2 := hid C2; clear C2 R2)
          | fail)
        exact ⟨rfl, rd_none HP.out (HCW.out.trans HC2.out (fun _ _ h => h))⟩
set_option maxHeartbeats 8000000 in
theorem dwork_any (rb tb : Nat) (l : List UInt8) (w : World) (hR : Rk w (· < rb) rb tb l) :
    Calls Try.prog 36 #[.agg (rdc rb tb)] w (rdEnd (NodeP w.heap.size) (· < rb) rb tb (pDec l) w) := by
  have HB := hid (below2 w (.cells (rdc rb tb) 69) (.cells #[.bool false, .slice none 0 0, .slice none 0 0, .slice none 0 0] 29))
  have HCW : Hid (Chg (· = rb) w ((w.alloc (.cells (rdc rb tb) 69)).alloc (.cells #[.bool false, .slice none 0 0, .slice none 0 0, .slice none 0 0] 29))) := Chg.of_below HB.out
  have HR := hid (hR.below HB.out)
  have hrb := hR.lt
  have htb := hR.tlt
  have HWs : Hid (((w.alloc (.cells (rdc rb tb) 69)).alloc (.cells #[.bool false, .slice none 0 0, .slice none 0 0, .slice none 0 0] 29)).heap.size = w.heap.size + 2) := by show _ = _; simp
  have HSr : Hid (∀ w', Chg (· = rb) ((w.alloc (.cells (rdc rb tb) 69)).alloc (.cells #[.bool false, .slice none 0 0, .slice none 0 0, .slice none 0 0] 29)) w' → w'.cell? ⟨w.heap.size, 0, none⟩ = some (.func (.func 64) #[] #[.pointer (some ⟨tb, 0, none⟩)]) ∧ w'.cell? ⟨w.heap.size, 1, none⟩ = some (.func (.func 65) #[] #[.pointer (some ⟨tb, 0, none⟩)]) ∧ w'.cell? ⟨w.heap.size, 2, none⟩ = some (.func (.func 67) #[] #[.pointer (some ⟨tb, 0, none⟩), .pointer (some ⟨rb, 0, none⟩)])) := fun w' C =>
    have q := inner_boxes w rb tb
    ⟨C.cell q.1 (show ¬ w.heap.size = rb by omega), C.cell q.2.1 (show ¬ w.heap.size = rb by omega), C.cell q.2.2 (show ¬ w.heap.size = rb by omega)⟩
  have HZ : Hid (∀ w', Chg (· = rb) ((w.alloc (.cells (rdc rb tb) 69)).alloc (.cells #[.bool false, .slice none 0 0, .slice none 0 0, .slice none 0 0] 29)) w' → Bw w' (w.heap.size + 1) (.bool false) (.slice none 0 0) (.slice none 0 0) (.slice none 0 0)) := fun w' C => (Bw.new1 w (.cells (rdc rb tb) 69) (.bool false) (.slice none 0 0) (.slice none 0 0) (.slice none 0 0) 29).chg C (show ¬ w.heap.size + 1 = rb by omega)
  clear hR
  generalize hres : pDec l = res
  have HRes := hid hres.symm
  clear hres
  have A1 := hid (nnode_any rb tb l _ HR.out)
  unfold rdc at *
  go_enter Try.func36, Try.ntmps36
  go_upto_region 1 with fail
  generalize hW : (w.alloc _).alloc _ = W at *
  clear hW
  obtain ⟨x0, x1, x2⟩ := HSr.out W (Chg.refl _ _)
  unfold rdEnd at A1
  cases hx : pNode l with
  | none =>
    have HP : Hid (res = none) := by show _ = _; rw [HRes.out]; unfold pDec; rw [hx]; rfl
    rw [hx] at A1
    simp only [] at A1
    clear hx
    go_wp2_with (first
      | (go_at_call 37; with_reducible refine A1.out.mono ?_; rintro e w2 ⟨C2, rfl⟩)
      | fail)
    exact ⟨rfl, rd_none HP.out (HCW.out.trans C2 (fun _ _ h => h))⟩
  | some nx =>
    obtain ⟨n, q⟩ := nx
    have HP1 : Hid (res = if n.err = 0 then some (n, q) else none) := by show _ = _; rw [HRes.out]; unfold pDec; rw [hx]; rfl
    rw [hx] at A1
    simp only [] at A1
    clear hx HRes
    have A2 := hid (fun w' cv kv dv (G : Nat → Prop) (N : NV w' G cv kv dv n) => check_any cv kv dv n w' N)
    by_cases he : n.err = 0
    · have HP : Hid (res = some (n, q)) := HP1.out.trans (if_pos he)
      rw [he] at A2
      clear HP1
      go_wp2_with (first
        | (go_at_call 37; with_reducible refine A1.out.mono ?_; rintro e w2 ⟨C2, va, rfl, hnp, R2⟩; obtain ⟨pc, cc, pk, ck, pd, cd, hva, N2⟩ := hnp.parts; subst hva; have B3 := alloc_below w2 (.cells #[.bool n.leaf, .slice pc n.cells.length cc, .slice pk n.keys.length ck, .slice pd n.kids.length cd] 29); have HN3 := hid (N2.below B3); have HR3 := hid (R2.below B3); have C3 := C2.trans (Chg.of_below (F := (· = rb)) B3) (fun _ _ h => h); have HC3 := hid C3; have HC2 := hid C2; have A3 := hid (A2.out _ _ _ _ _ HN3.out); clear C2 C3 N2 R2 hnp B3)
        | (go_at_call 14; with_reducible refine A3.out.mono ?_; rintro e w4 ⟨rfl, hb4⟩; have Z3 := HZ.out _ (HC3.out.trans (Chg.of_below (F := (· = rb)) hb4) (fun _ _ h => h)); obtain ⟨⟨z0, z1, z2, z3⟩, zf⟩ := Z3; have y0 := zf 0; have y1 := zf 1; have y2 := zf 2; have y3 := zf 3; obtain ⟨⟨u0, u1, u2, u3⟩, _⟩ := (Bw.new w2 (.bool n.leaf) (.slice pc n.cells.length cc) (.slice pk n.keys.length ck) (.slice pd n.kids.length cd) 29).bel hb4; have HB4 := hid hb4; clear hb4)
        | fail)
      have hw2 : w.heap.size + 2 ≤ w2.heap.size := by rw [← HWs.out]; exact HC2.out.size
      refine bodyPost_ret (by simp [results, Try.results36, go_sem, z0, z1, z2, z3]; try rfl) rfl ?_
      exact rd_some HP.out (chg_put4 (HCW.out.trans (HC3.out.trans (Chg.of_below (F := (· = rb)) HB4.out) (fun _ _ h => h)) (fun _ _ h => h)) (by omega) _ _ _ _) ⟨_, _, _, rfl, fin_nv (HN3.out.below HB4.out) (by rw [HWs.out]; omega) (by rw [HWs.out]; omega)⟩ ((HR3.out.below HB4.out).put (chg4 _ _ _ _ _ _) (by omega) (by omega))
    · have HP : Hid (res = none) := HP1.out.trans (if_neg he)
      clear HP1
      go_wp2_with (first
        | (go_at_call 37; with_reducible refine A1.out.mono ?_; rintro e w2 ⟨C2, va, rfl, hnp, R2⟩; obtain ⟨pc, cc, pk, ck, pd, cd, hva, N2⟩ := hnp.parts; subst hva; have B3 := alloc_below w2 (.cells #[.bool n.leaf, .slice pc n.cells.length cc, .slice pk n.keys.length ck, .slice pd n.kids.length cd] 29); have HN3 := hid (N2.below B3); have C3 := C2.trans (Chg.of_below (F := (· = rb)) B3) (fun _ _ h => h); have HC3 := hid C3; have A3 := hid (A2.out _ _ _ _ _ HN3.out); clear C2 C3 N2 R2 hnp B3)
        | (go_at_call 14; with_reducible refine A3.out.mono ?_; rintro e w4 ⟨rfl, hb4⟩; have HB4 := hid hb4; clear hb4)
        | fail)
      exact ⟨rfl, rd_none HP.out (HCW.out.trans (HC3.out.trans (Chg.of_below (F := (· = rb)) HB4.out) (fun _ _ h => h)) (fun _ _ h => h))⟩
end Go.Proofs.Ytilmlegkkgiahaa
