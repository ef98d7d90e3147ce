/-
  For every two codes the law FnDetAdd returns true: impl.MatDet answers as the reference model does; of a matrix in which the first row is added to another one it says the same, and of one with a row doubled twice as much. No condition: every two lists of bytes are taken.
-/
import Derived.Test.YthpfhbogpnhgmaaMi
import Derived.Test.YthpfhbogpnhgmaaDMc
import Derived.Test.YthpfhbogpnhgmaaNk5
import Derived.Test.YthpfhbogpnhgmaaNk6
import Derived.Test.YthpfhbogpnhgmaaDv
namespace Go.Proofs.Ythpfhbogpnhgmaa.fnDetAdd
open Go.ChangeShapes Go.WideShapes Go.ChangeAt Go.RowKit
set_option linter.unusedVariables false

/-- a row of which the first numbers are others -/
def mixP (k x : Nat) (f : Nat → Int) (r : List Int) : List Int := (List.range k).map (fun t => if t < x then f t else num r t)
theorem mixP_len (k x : Nat) (f : Nat → Int) (r : List Int) : (mixP k x f r).length = k := by simp [mixP]
theorem mixP_num {k x t : Nat} (f : Nat → Int) (r : List Int) (h : t < k) : num (mixP k x f r) t = if t < x then f t else num r t := num_map h _
theorem mixP_zero {k : Nat} (f : Nat → Int) {r : List Int} (h : r.length = k) : mixP k 0 f r = r :=
  list_num (by rw [mixP_len, h]) (fun i hi => by rw [mixP_len] at hi; rw [mixP_num f r hi, if_neg (by omega)])
theorem mixP_set {k x : Nat} (f : Nat → Int) (r : List Int) (h : x < k) : (mixP k x f r).set x (f x) = mixP k (x + 1) f r := by
  refine list_num (by rw [List.length_set, mixP_len, mixP_len]) (fun i hi => ?_)
  rw [List.length_set, mixP_len] at hi
  rw [num_setM (by rw [mixP_len]; exact h), mixP_num f r hi, mixP_num f r hi]
  by_cases e : i = x
  · subst e; rw [if_pos rfl, if_pos (by omega)]
  · rw [if_neg e]
    by_cases h2 : i < x
    · rw [if_pos h2, if_pos (by omega)]
    · rw [if_neg h2, if_neg (by omega)]
theorem dt_dbl {k K : Nat} {L : List (List Int)} {r : List Int} (hk : L.length = k) (hr : L[K]? = some r) (hK : K < k) : det k (ent (L.set K (mixP k k (fun t => 2 * num r t) r))) = 2 * det k (ent L) :=
  det_row_scale (ent L) _ hK 2 (fun i j hi hj => by
    rw [ent_set (by omega), mixP_num _ _ hj, if_pos hj]
    by_cases e : i = K
    · subst e; rw [if_pos rfl, if_pos rfl]; unfold ent; rw [rowL_at hr]
    · rw [if_neg e, if_neg e])
theorem dt_add {k K : Nat} {L : List (List Int)} {r r0 : List Int} (hk : L.length = k) (hr : L[K]? = some r) (hr0 : L[0]? = some r0) (hK : K < k) (h0 : 0 < K) : det k (ent (L.set K (mixP k k (fun t => num r t + num r0 t) r))) = det k (ent L) :=
  det_row_more (ent L) _ (r := K) (d := 0) hK (by omega) (by omega) 1 (fun i j hi hj => by
    rw [ent_set (by omega), mixP_num _ _ hj, if_pos hj]
    by_cases e : i = K
    · subst e; rw [if_pos rfl, if_pos rfl, Int.one_mul]; unfold ent; rw [rowL_at hr, rowL_at hr0]
    · rw [if_neg e, if_neg e])
theorem det_told (k c : Nat) (p : Option Addr) (L : List (List Int)) (D : Int) (w : World) (h : GRead w p L) (hk : L.length = k) (hk5 : k ≤ 5) (hD : det k (ent L) = D) :
    Calls Try.prog 15 #[.slice p k c] w fun e w' => ∃ (b : Bool) (d : Int), e = .returned (.tuple #[.int .i64 d, .bool b]) ∧ (b = true → d = D) ∧ Below w.heap.size w w' := by
  cases hm : matOk L
  · exact (iMatDet_no k c p L w h hk (by omega) hm).mono (by rintro e w' ⟨rfl, hb⟩; exact ⟨false, 0, rfl, (fun h => by cases h), hb⟩)
  · exact (iMatDet_yes k c p L w h hk hm).mono (by rintro e w' ⟨rfl, hb⟩; exact ⟨true, _, rfl, fun _ => hD, hb⟩)
theorem set_same {L : List (List Int)} {K : Nat} {r : List Int} (h : L[K]? = some r) : L.set K r = L := by
  have e : r = L[K]'(List.getElem?_eq_some_iff.1 h).1 := (List.getElem?_eq_some_iff.1 h).2.symm
  rw [e]; exact List.set_getElem_self _
theorem set_at {L : List (List Int)} {K : Nat} {r : List Int} (h : K < L.length) : (L.set K r)[K]? = some r := by rw [List.getElem?_set, if_pos rfl, if_pos h]
/-- where the blocks of the matrix and of its first copy lie -/
structure Cs (w : World) (z1 z2 g gx : Nat) (bs bx : List (Nat × Nat)) : Prop where
  le1 : w.heap.size ≤ z1
  le2 : z1 ≤ z2
  hg : g < z1
  hb : ∀ (i b c : Nat), bs[i]? = some (b, c) → b < z1
  hgx : gx < z2
  hbx : ∀ (i b c : Nat), bx[i]? = some (b, c) → b < z2
/-- a matrix and two copies, one behind the other -/
def Three (w W : World) (z1 z2 g c gx cx gy cy : Nat) (bs bx bY : List (Nat × Nat)) (L X Y : List (List Int)) : Prop :=
  GridO W 3 29 w.heap.size g c bs L ∧ GridO W 3 29 z1 gx cx bx X ∧ GridO W 3 29 z2 gy cy bY Y ∧ Below w.heap.size w W
theorem Three.dr {w W : World} {z1 z2 g c gx cx gy cy : Nat} {bs bx bY : List (Nat × Nat)} {L X Y : List (List Int)} (h : Three w W z1 z2 g c gx cx gy cy bs bx bY L X Y) : Three w W.drew z1 z2 g c gx cx gy cy bs bx bY L X Y :=
  ⟨h.1.block (fun _ _ _ => rfl), h.2.1.block (fun _ _ _ => rfl), h.2.2.1.block (fun _ _ _ => rfl), below_drew h.2.2.2⟩
theorem Three.putY {w W : World} {z1 z2 g c gx cx gy cy K j b d : Nat} {bs bx bY : List (Nat × Nat)} {L X Y : List (List Int)} {r : List Int} (hc : Cs w z1 z2 g gx bs bx) (h : Three w W z1 z2 g c gx cx gy cy bs bx bY L X Y) (hb : bY[K]? = some (b, d)) (hr : Y[K]? = some r) (hj : j < r.length) (v : Int) :
    Three w (W.setCell ⟨b, j, none⟩ (.int .i64 v)) z1 z2 g c gx cx gy cy bs bx bY L X (Y.set K (r.set j v)) := by
  have hz := (h.2.2.1.far K b d hb).1
  have hB : Below z2 W (W.setCell ⟨b, j, none⟩ (.int .i64 v)) := (Below.refl z2 W).setCell (p := ⟨b, j, none⟩) hz _
  have h1 := hc.le1
  have h2 := hc.le2
  refine ⟨h.1.under (hB.mono h2) hc.hg hc.hb, h.2.1.under hB hc.hgx hc.hbx, h.2.2.1.setRow hb hr (by rw [List.length_set]) (by rw [List.length_set]; exact (h.2.2.1.row K b d r hb hr).set j v hj) (gb_oneM _ _ _ _), h.2.2.2.setCell (p := ⟨b, j, none⟩) (by show w.heap.size ≤ b; omega) _⟩
theorem Three.putX {w W : World} {z1 z2 g c gx cx gy cy K j b d : Nat} {bs bx bY : List (Nat × Nat)} {L X Y : List (List Int)} {r : List Int} (hc : Cs w z1 z2 g gx bs bx) (h : Three w W z1 z2 g c gx cx gy cy bs bx bY L X Y) (hb : bx[K]? = some (b, d)) (hr : X[K]? = some r) (hj : j < r.length) (v : Int) :
    Three w (W.setCell ⟨b, j, none⟩ (.int .i64 v)) z1 z2 g c gx cx gy cy bs bx bY L (X.set K (r.set j v)) Y := by
  have hz := (h.2.1.far K b d hb).1
  have hz2 := hc.hbx K b d hb
  have hB : Below z1 W (W.setCell ⟨b, j, none⟩ (.int .i64 v)) := (Below.refl z1 W).setCell (p := ⟨b, j, none⟩) hz _
  have h1 := hc.le1
  refine ⟨h.1.under hB hc.hg hc.hb, h.2.1.setRow hb hr (by rw [List.length_set]) (by rw [List.length_set]; exact (h.2.1.row K b d r hb hr).set j v hj) (gb_oneM _ _ _ _), h.2.2.1.grown (gb_oneM _ _ _ _) hz2, h.2.2.2.setCell (p := ⟨b, j, none⟩) (by show w.heap.size ≤ b; omega) _⟩
/-- the cells of a matrix at a place -/
theorem at_ij {W : World} {lo g c K j k : Nat} {bs : List (Nat × Nat)} {L : List (List Int)} {r : List Int} (h : GridO W 3 29 lo g c bs L) (hr : L[K]? = some r) (hl : r.length = k) (hj : j < k) :
    ∃ b d, bs[K]? = some (b, d) ∧ W.cell? ⟨g, K, none⟩ = some (.slice (some ⟨b, 0, none⟩) k d) ∧ W.cell? ⟨b, j, none⟩ = some (.int .i64 (num r j)) ∧ W.frozen? ⟨b, j, none⟩ = false ∧ lo ≤ b ∧ b ≠ g := by
  obtain ⟨b, d, r', hb, hr', e, ho, h1, h2⟩ := h.at (List.getElem?_eq_some_iff.1 hr).1
  rw [hr] at hr'; cases hr'
  rw [hl] at e
  exact ⟨b, d, hb, e, ho.cells (at_num (by omega)), ho.frozen j, h1, h2⟩
set_option maxHeartbeats 8000000 in
set_option maxRecDepth 100000 in
theorem walk (len cap : Nat) (p : Option Addr) (len2 cap2 : Nat) (p2 : Option Addr) (w : World) (hl : len ≤ 1048576) (hl2 : len2 ≤ 1048576) (h : Hid (Code' w (.slice p len cap))) (h2 : Hid (Code' w (.slice p2 len2 cap2))) :
    Calls Try.prog 4 #[.slice p len cap, .slice p2 len2 cap2] w fun e w' => e = .returned (.bool true) ∧ Below w.heap.size w w' := by
  have hl' : ¬ (1048576 : Int) < (len : Int) := by omega
  have hl2' : ¬ (1048576 : Int) < (len2 : Int) := by omega
  clear h2
  go_enter Try.func4, Try.ntmps4
  go_upto_region 4 with (go_at_call 14; (with_reducible refine (drawMatDet_is _ _ h).mono ?_); rintro e wd ⟨L, bs, g, k, c, rfl, hd, hg, hb_wd⟩; have hs_wd := hb_wd.size; have HG := Lib.hid hg; have HD := Lib.hid hd; have hgl := hg.lt; clear hg hd)
  clear h
  have hk4 : k ≤ 4 := HD.out.2.1
  obtain ⟨b, hb⟩ : ∃ b, matOk L = b := ⟨_, rfl⟩
  cases b
  · have c1 := fun w h => Lib.hid (iMatDet_no k c (some ⟨g, 0, none⟩) L w h HD.out.1 (by omega) hb)
    have c2 := fun w h => Lib.hid (sMatDet_no k c (some ⟨g, 0, none⟩) L w h HD.out.1 (by omega) hb)
    clear hb
    go_wp2_with (first | (go_at_call 15; (with_reducible refine ((c1 _ ?_).out).mono ?_); (focus ((exact HG.out.read); done)); rintro e wi ⟨rfl, hb_wi⟩; have hs_wi := hb_wi.size; (try simp at hs_wi)) | (go_at_call 16; (with_reducible refine ((c2 _ ?_).out).mono ?_); (focus ((exact HG.out.read.below hb_wi); done)); rintro e ws ⟨rfl, hb_ws⟩; have hs_ws := hb_ws.size; (try simp at hs_ws)))
    exact bodyPost_ret (v := .bool true) (by simp [results, Try.results4, go_sem]) rfl ⟨rfl, (by repeat (first | assumption | exact Below.refl _ _ | (refine below_chain ?_ (by assumption) (by first | omega | (simp <;> omega) | simp)) | (refine Below.alloc ?_ (by first | omega | (simp <;> omega) | simp) _) | (apply below_drewN) | (apply below_drew) | (refine Below.setCell ?_ (by first | omega | (simp <;> omega) | simp) _)))⟩
  · have hb0 := Lib.hid hb
    obtain ⟨D, hD⟩ : ∃ D, det k (ent L) = D := ⟨_, rfl⟩
    have c1 := fun w h => Lib.hid (iMatDet_yes k c (some ⟨g, 0, none⟩) L w h HD.out.1 hb)
    have c2 := fun w h => Lib.hid (sMatDet_yes k c (some ⟨g, 0, none⟩) L w h HD.out.1 hb)
    rw [hD] at c1 c2
    have hs := matOk.small hb
    rw [HD.out.1] at hs
    have hDb := det_small hk4 hs
    rw [hD] at hDb
    have hk1 : 1 ≤ k := by have := (matOk_true.1 hb).1; have := HD.out.1; omega
    have hD0 := Lib.hid (And.intro hD hs)
    have hLk : Hid (L.length = k ∧ ∀ r ∈ L, r.length ≤ 8) := Lib.hid ⟨HD.out.1, fun r hr => by have := HD.out.2.2 r hr; omega⟩
    clear hb hD hs
    go_upto_region 8 with (first | (go_at_call 16; (with_reducible refine ((c2 _ ?_).out).mono ?_); (focus ((exact HG.out.read.below hb_wi); done)); rintro e ws ⟨rfl, hb_ws⟩; have hs_ws := hb_ws.size; (try simp at hs_ws)) | (go_at_call 15; (with_reducible refine ((c1 _ ?_).out).mono ?_); (focus ((exact HG.out.read); done)); rintro e wi ⟨rfl, hb_wi⟩; have hs_wi := hb_wi.size; (try simp at hs_wi)))
    have hBj : Below wd.heap.size wd ws := (by repeat (first | assumption | exact Below.refl _ _ | (refine below_chain ?_ (by assumption) (by first | omega | (simp <;> omega) | simp)) | (refine Below.alloc ?_ (by first | omega | (simp <;> omega) | simp) _) | (apply below_drewN) | (apply below_drew) | (refine Below.setCell ?_ (by first | omega | (simp <;> omega) | simp) _)))
    have hBw : Below w.heap.size w ws := (by repeat (first | assumption | exact Below.refl _ _ | (refine below_chain ?_ (by assumption) (by first | omega | (simp <;> omega) | simp)) | (refine Below.alloc ?_ (by first | omega | (simp <;> omega) | simp) _) | (apply below_drewN) | (apply below_drew) | (refine Below.setCell ?_ (by first | omega | (simp <;> omega) | simp) _)))
    have hsj := hBj.size
    have hsw := hBw.size
    have HGj := Lib.hid (HG.out.below hBj)
    have hglj := HGj.out.lt
    have HWj := Lib.hid hBw
    clear hb_wd hb_wi hb_ws hBj HG c2 c1 hBw
    obtain ⟨K, hKe, hKk⟩ : ∃ K : Nat, (len2 : Int) % (k : Int) = (K : Int) ∧ K < k := ⟨len2 % k, by first | rfl | simp, Nat.mod_lt _ (by omega)⟩
    have hk0 : ¬ k = 0 := by omega
    go_upto_region 9 with (go_at_call 18; (with_reducible refine (copyG k w.heap.size g c bs L _ ?_ hLk.out.1 (by omega) hLk.out.2).mono ?_); (focus (exact HGj.out; done)); rintro e wx ⟨bx, gx, cx, rfl, hx, hb_wx⟩; have hs_wx := hb_wx.size; have HX := Lib.hid hx; clear hx)
    go_upto_region 10 with (go_at_call 18; (with_reducible refine (copyG k w.heap.size g c bs L _ ?_ hLk.out.1 (by omega) hLk.out.2).mono ?_); (focus (exact HGj.out.below hb_wx; done)); rintro e wy ⟨bY, gy, cy, rfl, hy, hb_wy⟩; have hs_wy := hb_wy.size; have HY := Lib.hid hy; clear hy)
    obtain ⟨r, hr⟩ : ∃ r, L[K]? = some r := ⟨_, List.getElem?_eq_getElem (by rw [HD.out.1]; exact hKk)⟩
    obtain ⟨r0, hr0⟩ : ∃ r, L[0]? = some r := ⟨_, List.getElem?_eq_getElem (by rw [HD.out.1]; omega)⟩
    have hrl : r.length = k := by have := ((matOk_true.1 hb0.out).2.2 r (List.mem_of_getElem? hr)).1; rw [this, HD.out.1]
    have hrl0 : r0.length = k := by have := ((matOk_true.1 hb0.out).2.2 r0 (List.mem_of_getElem? hr0)).1; rw [this, HD.out.1]
    have hC : Hid (Cs w ws.heap.size wx.heap.size g gx bs bx) := Lib.hid ⟨hsw, hs_wx, hglj, HGj.out.z, HX.out.lt, HX.out.z⟩
    have HT : Hid (Three w wy ws.heap.size wx.heap.size g c gx cx gy cy bs bx bY L L L) := Lib.hid ⟨HGj.out.below (hb_wx.trans (hb_wy.mono hs_wx)), HX.out.below hb_wy, HY.out, HWj.out.trans ((hb_wx.trans (hb_wy.mono hs_wx)).mono hsw)⟩
    have HR := Lib.hid (And.intro hr (And.intro hr0 (And.intro hrl hrl0)))
    clear hb_wx hb_wy HX HY HWj HGj hr hr0 hrl hrl0
    have hz2 : Hid (∀ j, j < k → -1000 ≤ num r j ∧ num r j ≤ 1000) := Lib.hid (fun j hj => by have := hD0.out.2 K j hKk hj; unfold ent at this; rw [rowL_at HR.out.1] at this; exact this)
    have hz0 : Hid (∀ j, j < k → -1000 ≤ num r0 j ∧ num r0 j ≤ 1000) := Lib.hid (fun j hj => by have := hD0.out.2 0 j (by omega) hj; unfold ent at this; rw [rowL_at HR.out.2.1] at this; exact this)
    by_cases hK0 : K = 0
    · subst hK0
      have hKe0 : (len2 : Int) % (k : Int) = 0 := by simpa using hKe
      go_wp2_with fail
      rw [hKe0]
      go_loopw [13] (fun i W => ∃ j : Nat, j ≤ k ∧ i = .int .i64 j ∧ Three w W ws.heap.size wx.heap.size g c gx cx gy cy bs bx bY L L (L.set 0 (mixP k j (fun t => 2 * num r t) r))) (fun i _ => k - (intOf i).toNat)
      case atStart => exact ⟨0, Nat.zero_le _, rfl, by rw [mixP_zero _ HR.out.2.2.1, set_same HR.out.1]; exact HT.out⟩
      case round =>
        clear HT
        rename World => W
        obtain ⟨j, hj, rfl, ht⟩ := hrel
        by_cases hlt : j < k
        · have hlt' : (j : Int) < (k : Int) := by omega
          have hLK : 0 < L.length := by rw [HD.out.1]; exact hKk
          obtain ⟨bK, dK, hbK, m1, m2, m3, m4, m5⟩ := at_ij ht.1 HR.out.1 HR.out.2.2.1 hlt
          obtain ⟨yK, ey, hyK, y1, y2, y3, y4, y5⟩ := at_ij ht.2.2.1 (set_at hLK) (mixP_len _ _ _ _) hlt
          obtain ⟨q1, q2⟩ := hz2.out j hlt
          obtain ⟨v, hv⟩ : ∃ v, num r j = v := ⟨_, rfl⟩
          have hYn := ht.putY hC.out hyK (set_at hLK) (j := j) (by rw [mixP_len]; exact hlt) (2 * num r j)
          rw [mixP_set (fun t => 2 * num r t) r hlt, List.set_set] at hYn
          rw [hv] at m2 q1 q2 hYn
          have hbz := hC.out.hb 0 bK dK hbK
          have hgz := hC.out.hg
          have hgy := ht.2.2.1.low
          have hle2 := hC.out.le2
          have n1 : ¬ gy = yK := fun e => y5 e.symm
          have n2 : ¬ g = yK := by omega
          have n3 : ¬ bK = yK := by omega
          have n4 : ¬ yK = bK := by omega
          have n5 : ¬ yK = g := by omega
          have HN := Lib.hid (And.intro hYn hv)
          clear ht hYn hv
          go_wp2_with fail
          go_region_held3 (fun U => U.cell? ⟨gy, 0, none⟩ = some (.slice (some ⟨yK, 0, none⟩) k ey) ∧ U.cell? ⟨g, 0, none⟩ = some (.slice (some ⟨bK, 0, none⟩) k dK) ∧ U.cell? ⟨bK, j, none⟩ = some (.int .i64 v)) (go_keep) (fail)
          have w1 : IntKind.i64.wrap (2 * v) = 2 * v := by rw [IntKind.wrap_i64]; omega
          rw [w1]
          go_wp2_with fail
          go_roundw
          case rel => exact ⟨j + 1, by omega, by go_num, HN.out.1.dr⟩
          case measure => simp [intOf]; omega
        · skip
          have e : j = k := by omega
          subst e
          have hX : det j (ent (L)) = D := hD0.out.1
          have hY : det j (ent (L.set 0 (mixP j j (fun t => 2 * num r t) r))) = 2 * D := by rw [dt_dbl HD.out.1 HR.out.1 hKk, hD0.out.1]
          have c3 := fun W h => Lib.hid (det_told j cx (some ⟨gx, 0, none⟩) (L) D W h (by (try rw [List.length_set]); exact HD.out.1) (by omega) hX)
          have c4 := fun W h => Lib.hid (det_told j cy (some ⟨gy, 0, none⟩) (L.set 0 (mixP j j (fun t => 2 * num r t) r)) (2 * D) W h (by rw [List.length_set]; exact HD.out.1) (by omega) hY)
          have HZ := Lib.hid ht
          clear ht hX hY
          go_upto_region 18 with ((go_at_call 15; (with_reducible refine ((c3 _ ?_).out).mono ?_); (focus ((exact HZ.out.2.1.read); done)); rintro e wa ⟨ba, da, rfl, hda, hb_wa⟩; have hs_wa := hb_wa.size; (try simp at hs_wa)))
          go_upto_region 19 with ((go_at_call 15; (with_reducible refine ((c4 _ ?_).out).mono ?_); (focus ((exact HZ.out.2.2.1.read.below hb_wa); done)); rintro e wb ⟨bb, db, rfl, hdb, hb_wb⟩; have hs_wb := hb_wb.size; (try simp at hs_wb)))
          have hBe : Below w.heap.size w wb := HZ.out.2.2.2.trans ((hb_wa.trans (hb_wb.mono hs_wa)).mono HZ.out.2.2.2.size)
          obtain ⟨d1, d2⟩ := hDb
          clear hb_wa hb_wb c3 c4
          cases ba <;> cases bb
          all_goals (
            first | (obtain rfl := hda rfl) | skip
            first | (obtain rfl := hdb rfl) | skip
            go_wp2_with fail
            exact bodyPost_ret (v := .bool true) (by simp [results, Try.results4, go_sem]) rfl ⟨rfl, hBe⟩)
    · have hK0' : 0 < (K : Int) := by omega
      have hk1n : 0 < k := by omega
      have hKp : 0 < K := by omega
      go_wp2_with fail
      rw [hKe]
      go_loopw [13] (fun i W => ∃ j : Nat, j ≤ k ∧ i = .int .i64 j ∧ Three w W ws.heap.size wx.heap.size g c gx cx gy cy bs bx bY L (L.set K (mixP k j (fun t => num r t + num r0 t) r)) (L.set K (mixP k j (fun t => 2 * num r t) r))) (fun i _ => k - (intOf i).toNat)
      case atStart => exact ⟨0, Nat.zero_le _, rfl, by rw [mixP_zero _ HR.out.2.2.1, mixP_zero _ HR.out.2.2.1, set_same HR.out.1]; exact HT.out⟩
      case round =>
        clear HT
        rename World => W
        obtain ⟨j, hj, rfl, ht⟩ := hrel
        by_cases hlt : j < k
        · have hlt' : (j : Int) < (k : Int) := by omega
          have hLK : K < L.length := by rw [HD.out.1]; exact hKk
          obtain ⟨bK, dK, hbK, m1, m2, m3, m4, m5⟩ := at_ij ht.1 HR.out.1 HR.out.2.2.1 hlt
          obtain ⟨yK, ey, hyK, y1, y2, y3, y4, y5⟩ := at_ij ht.2.2.1 (set_at hLK) (mixP_len _ _ _ _) hlt
          obtain ⟨q1, q2⟩ := hz2.out j hlt
          obtain ⟨v, hv⟩ : ∃ v, num r j = v := ⟨_, rfl⟩
          have hYn := ht.putY hC.out hyK (set_at hLK) (j := j) (by rw [mixP_len]; exact hlt) (2 * num r j)
          rw [mixP_set (fun t => 2 * num r t) r hlt, List.set_set] at hYn
          rw [hv] at m2 q1 q2 hYn
          have hbz := hC.out.hb K bK dK hbK
          have hgz := hC.out.hg
          have hgy := ht.2.2.1.low
          have hle2 := hC.out.le2
          have n1 : ¬ gy = yK := fun e => y5 e.symm
          have n2 : ¬ g = yK := by omega
          have n3 : ¬ bK = yK := by omega
          have n4 : ¬ yK = bK := by omega
          have n5 : ¬ yK = g := by omega
          have HN := Lib.hid (And.intro hYn hv)
          clear ht hYn hv
          go_wp2_with fail
          go_region_held3 (fun U => U.cell? ⟨gy, K, none⟩ = some (.slice (some ⟨yK, 0, none⟩) k ey) ∧ U.cell? ⟨g, K, none⟩ = some (.slice (some ⟨bK, 0, none⟩) k dK) ∧ U.cell? ⟨bK, j, none⟩ = some (.int .i64 v)) (go_keep) (fail)
          have w1 : IntKind.i64.wrap (2 * v) = 2 * v := by rw [IntKind.wrap_i64]; omega
          rw [w1]
          go_upto_region 15 with fail
          refine gen_worldM (fun U => Three w U ws.heap.size wx.heap.size g c gx cx gy cy bs bx bY L (L.set K (mixP k j (fun t => num r t + num r0 t) r)) (L.set K (mixP k (j + 1) (fun t => 2 * num r t) r))) HN.out.1.dr (fun W1 hW1 => ?_)
          clear m1 m2 m3 y1 y2 y3 y4 y5 n1 n2 n3 n4 n5 hgy HN w1 hbK hyK hbz m4 m5
          obtain ⟨q3, q4⟩ := hz0.out j hlt
          obtain ⟨v0, hv0⟩ : ∃ v, num r0 j = v := ⟨_, rfl⟩
          obtain ⟨v, hv⟩ : ∃ v, num r j = v := ⟨_, rfl⟩
          obtain ⟨aK, fK, haK, m1, m2, m3, m4, m5⟩ := at_ij hW1.1 HR.out.1 HR.out.2.2.1 hlt
          obtain ⟨a0, f0, ha0, o1, o2, o3, o4, o5⟩ := at_ij hW1.1 HR.out.2.1 HR.out.2.2.2 hlt
          obtain ⟨xK, ex, hxK, y1, y2, y3, y4, y5⟩ := at_ij hW1.2.1 (set_at hLK) (mixP_len _ _ _ _) hlt
          have hXn := hW1.putX hC.out hxK (set_at hLK) (j := j) (by rw [mixP_len]; exact hlt) (num r j + num r0 j)
          rw [mixP_set (fun t => num r t + num r0 t) r hlt, List.set_set] at hXn
          obtain ⟨q5, q6⟩ := hz2.out j hlt
          rw [hv] at m2 q5 q6 hXn
          rw [hv0] at o2 q3 q4 hXn
          have hbz := hC.out.hb K aK fK haK
          have hbz0 := hC.out.hb 0 a0 f0 ha0
          have hgx := hW1.2.1.low
          have n1 : ¬ gx = xK := fun e => y5 e.symm
          have n2 : ¬ g = xK := by omega
          have n3 : ¬ aK = xK := by omega
          have n4 : ¬ xK = aK := by omega
          have n5 : ¬ xK = g := by omega
          have n6 : ¬ a0 = xK := by omega
          have n7 : ¬ xK = a0 := by omega
          have HN := Lib.hid (And.intro hXn hv)
          clear hW1 hXn hv hv0
          go_wp2_with fail
          go_region_held3 (fun U => U.cell? ⟨gx, K, none⟩ = some (.slice (some ⟨xK, 0, none⟩) k ex) ∧ U.cell? ⟨g, K, none⟩ = some (.slice (some ⟨aK, 0, none⟩) k fK) ∧ U.cell? ⟨aK, j, none⟩ = some (.int .i64 v) ∧ U.cell? ⟨g, 0, none⟩ = some (.slice (some ⟨a0, 0, none⟩) k f0) ∧ U.cell? ⟨a0, j, none⟩ = some (.int .i64 v0)) (go_keep) (fail)
          have w1 : IntKind.i64.wrap (v + v0) = v + v0 := by rw [IntKind.wrap_i64]; omega
          rw [w1]
          go_wp2_with fail
          go_roundw
          case rel => exact ⟨j + 1, by omega, by go_num, HN.out.1.dr⟩
          case measure => simp [intOf]; omega
        · skip
          have e : j = k := by omega
          subst e
          have hX : det j (ent (L.set K (mixP j j (fun t => num r t + num r0 t) r))) = D := by rw [dt_add HD.out.1 HR.out.1 HR.out.2.1 hKk hKp, hD0.out.1]
          have hY : det j (ent (L.set K (mixP j j (fun t => 2 * num r t) r))) = 2 * D := by rw [dt_dbl HD.out.1 HR.out.1 hKk, hD0.out.1]
          have c3 := fun W h => Lib.hid (det_told j cx (some ⟨gx, 0, none⟩) (L.set K (mixP j j (fun t => num r t + num r0 t) r)) D W h (by (try rw [List.length_set]); exact HD.out.1) (by omega) hX)
          have c4 := fun W h => Lib.hid (det_told j cy (some ⟨gy, 0, none⟩) (L.set K (mixP j j (fun t => 2 * num r t) r)) (2 * D) W h (by rw [List.length_set]; exact HD.out.1) (by omega) hY)
          have HZ := Lib.hid ht
          clear ht hX hY
          go_upto_region 18 with ((go_at_call 15; (with_reducible refine ((c3 _ ?_).out).mono ?_); (focus ((exact HZ.out.2.1.read); done)); rintro e wa ⟨ba, da, rfl, hda, hb_wa⟩; have hs_wa := hb_wa.size; (try simp at hs_wa)))
          go_upto_region 19 with ((go_at_call 15; (with_reducible refine ((c4 _ ?_).out).mono ?_); (focus ((exact HZ.out.2.2.1.read.below hb_wa); done)); rintro e wb ⟨bb, db, rfl, hdb, hb_wb⟩; have hs_wb := hb_wb.size; (try simp at hs_wb)))
          have hBe : Below w.heap.size w wb := HZ.out.2.2.2.trans ((hb_wa.trans (hb_wb.mono hs_wa)).mono HZ.out.2.2.2.size)
          obtain ⟨d1, d2⟩ := hDb
          clear hb_wa hb_wb c3 c4
          cases ba <;> cases bb
          all_goals (
            first | (obtain rfl := hda rfl) | skip
            first | (obtain rfl := hdb rfl) | skip
            go_wp2_with fail
            exact bodyPost_ret (v := .bool true) (by simp [results, Try.results4, go_sem]) rfl ⟨rfl, hBe⟩)

set_option maxRecDepth 100000 in
theorem walk_long (len cap : Nat) (p : Option Addr) (len1 cap1 : Nat) (p1 : Option Addr) (w : World) (hl : 1048576 < len ∨ 1048576 < len1) :
    Calls Try.prog 4 #[.slice p len cap, .slice p1 len1 cap1] w fun e w' => e = .returned (.bool true) ∧ Below w.heap.size w w' := by
  by_cases h0 : (1048576 : Int) < (len : Int)
  · go_enter Try.func4, Try.ntmps4
    go_wp2
    go_ret
    exact ⟨rfl, Below.refl _ _⟩
  · have hl' : (1048576 : Int) < (len1 : Int) := by omega
    clear hl
    go_enter Try.func4, Try.ntmps4
    go_wp2
    go_ret
    exact ⟨rfl, Below.refl _ _⟩

set_option maxRecDepth 100000 in
theorem lifted (os : Os) (started : os.Started) (H : Type) (enc : TypeId × Value → H) :
    ReturnsInHanded {} Try.checked os 4 .any (Rows.fnDetAddSpec.pre6 enc Try.prog Try.f4 Rows.fnDetAddRow.domain false) (Rows.fnDetAddSpec.post enc Try.prog Try.f4 false true false false) := by
  refine returnsInHanded_of_change (C := Try.checked) own started (by kernel_rfl) Try.func4
    (ChangeSpec.witness6 (enc := enc) (C := Try.checked) false ⟨#[], #[.slice none 0 0, .slice none 0 0], []⟩ 8 (by kernel_rfl) (by kernel_rfl) (by kernel_rfl) (by kernel_rfl)) ?_
  intro W base args ds gs before hval0 hW hcnd _
  have hval : ∀ (j : Nat) t v, Try.f4.params[j]? = some t → args[j]? = some v → Value.okWide Try.prog W .any base t v := hval0
  have hW' := hW
  obtain ⟨p, q, hA0, hV, rfl, hfz, hnd⟩ := hW
  have hA : DataW.TrodAll enc Try.prog W 0 (fun _ => true) true Try.f4.params.toList args.toList ds p := hA0
  rw [Try.params4] at hA hval
  obtain ⟨v0, vs0, d0, ds0, p0, q0, hargs, rfl, rfl, h0, r0⟩ := trodAll_cons hA
  obtain ⟨v1, vs1, d1, ds1, p1, q1, rfl, rfl, rfl, h1, r1⟩ := trodAll_cons r0
  obtain ⟨rfl, rfl, rfl⟩ := trodAll_nil r1
  obtain rfl : args = #[v0, v1] := by cases args; simp_all
  obtain ⟨rfl, rfl⟩ := trodVars_none hV
  obtain ⟨a0, len0, cap0, rfl⟩ := okWide_slice Try.underlying22 (hval 0 22 v0 rfl rfl)
  have k0 := h0
  have lt0 : ∀ x ∈ p0, x.block < W.heap.size := by obtain ⟨m, hm⟩ := k0; exact DataW.trod_lt m _ _ _ hm
  obtain ⟨z0, w0⟩ : ∃ zs, IsRow .u8 W a0 len0 cap0 zs := by
    obtain ⟨fuel, hf⟩ := h0
    rcases open_ints Try.underlying22 Try.underlying5 (by kernel_rfl) hf with ⟨hcs, _⟩ | ⟨x, l, c, zs, hcs, _, hl, hm, hz, _, hcell, hwz⟩
    · simp [Value.cells] at hcs
      obtain ⟨rfl, rfl, rfl⟩ := hcs
      exact ⟨[], .inl ⟨rfl, rfl, rfl, rfl⟩⟩
    · simp [Value.cells] at hcs
      obtain ⟨rfl, rfl, rfl⟩ := hcs
      exact ⟨zs, .inr ⟨_, rfl, hl, hm, by simpa using hz, hcell, hwz⟩⟩
  obtain ⟨a1, len1, cap1, rfl⟩ := okWide_slice Try.underlying22 (hval 1 22 v1 rfl rfl)
  have k1 := h1
  have lt1 : ∀ x ∈ p1, x.block < W.heap.size := by obtain ⟨m, hm⟩ := k1; exact DataW.trod_lt m _ _ _ hm
  obtain ⟨z1, w1⟩ : ∃ zs, IsRow .u8 W a1 len1 cap1 zs := by
    obtain ⟨fuel, hf⟩ := h1
    rcases open_ints Try.underlying22 Try.underlying5 (by kernel_rfl) hf with ⟨hcs, _⟩ | ⟨x, l, c, zs, hcs, _, hl, hm, hz, _, hcell, hwz⟩
    · simp [Value.cells] at hcs
      obtain ⟨rfl, rfl, rfl⟩ := hcs
      exact ⟨[], .inl ⟨rfl, rfl, rfl, rfl⟩⟩
    · simp [Value.cells] at hcs
      obtain ⟨rfl, rfl, rfl⟩ := hcs
      exact ⟨zs, .inr ⟨_, rfl, hl, hm, by simpa using hz, hcell, hwz⟩⟩
  clear hA0 hval0
  have hw : Calls Try.prog 4 #[.slice a0 len0 cap0, .slice a1 len1 cap1] W fun e w' => e = .returned (.bool true) ∧ Below W.heap.size W w' := by
    by_cases hl : len0 ≤ 1048576
    · by_cases hm : len1 ≤ 1048576
      · exact walk len0 cap0 a0 len1 cap1 a1 W hl hm (Lib.hid (code_of_row w0 hl)) (Lib.hid (code_of_row w1 hm))
      · exact walk_long len0 cap0 a0 len1 cap1 a1 W (by omega)
    · exact walk_long len0 cap0 a0 len1 cap1 a1 W (by omega)
  refine hw.mono fun e W' ⟨he, bel⟩ => ?_
  subst he
  exact ⟨_, rfl, _, _, _, [], _, [], hW', trodAll_mk1 (shut_bool Try.underlying4 _), (trodAll_cons_mk (Below.trod laidOut (by kernel_rfl) (of_decide_eq_true (by kernel_rfl)) k0 bel lt0) (trodAll_cons_mk (Below.trod laidOut (by kernel_rfl) (of_decide_eq_true (by kernel_rfl)) k1 bel lt1) trodAll_mk0)), rfl, bel.frame _, fun h => by cases h⟩

theorem over : Rows.fnDetAddRow.holds Try.pinned (OpenSpec.ofChange Rows.fnDetAddSpec) :=
  OpenClaim.holds_of_wide 4 Try.f4 rfl rfl rfl rfl rfl rfl rfl ⟨rfl, rfl, rfl, rfl, rfl⟩ rfl rfl rfl rfl rfl (by kernel_rfl) Try.func4 (by kernel_rfl)
    (of_decide_eq_true (by kernel_rfl)) (by unfold Func.isWrapper; first | (rw [if_pos (by decide +kernel)]; kernel_rfl) | (rw [if_neg (by decide +kernel)]; exact ⟨rfl, rfl⟩))
    (fun os started H enc _ => lifted os started H enc)

theorem proved : Rows.FnDetAddSaid := over
end Go.Proofs.Ythpfhbogpnhgmaa.fnDetAdd

