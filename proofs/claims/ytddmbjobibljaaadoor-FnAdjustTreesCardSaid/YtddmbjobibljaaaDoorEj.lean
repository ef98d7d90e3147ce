/-
  The reference model's AdjustSum.
-/
import Derived.Test.YtddmbjobibljaaaDoorEh
namespace Go.Proofs.YtddmbjobibljaaaDoor
open Go.RowKit
set_option linter.unusedVariables false

/-- a weighted square of a quotient -/
def sqA (t l : Int) : Int := Quo.gT (Quo.both t l t l) (t * t) (l * l)
def sqB (t l : Int) : Int := Quo.gL (Quo.both t l t l) (t * t) (l * l)
def sqO (t l : Int) : Bool := Quo.gOk (Quo.both t l t l) (t * t) (l * l)
def sqT (t l g : Int) : Int := if sqO t l = true then Quo.gT (Quo.both (sqA t l) (sqB t l) g 1) (sqA t l * g) (sqB t l * 1) else 0
def sqL (t l g : Int) : Int := if sqO t l = true then Quo.gL (Quo.both (sqA t l) (sqB t l) g 1) (sqA t l * g) (sqB t l * 1) else 0
def sqK (t l g : Int) : Bool := if sqO t l = true then Quo.gOk (Quo.both (sqA t l) (sqB t l) g 1) (sqA t l * g) (sqB t l * 1) else false
/-- two numbers in a block of their own -/
def Cell2 (W : World) (R : Nat) (x y : Int) : Prop := W.cell? ⟨R, 0, none⟩ = some (.int .i64 x) ∧ W.cell? ⟨R, 1, none⟩ = some (.int .i64 y) ∧ W.frozen? ⟨R, 0, none⟩ = false ∧ W.frozen? ⟨R, 1, none⟩ = false
theorem Cell2.below {W W' : World} {R : Nat} {x y : Int} (h : Cell2 W R x y) (hb : Below W.heap.size W W') : Cell2 W' R x y :=
  ⟨cell_below_keep hb h.1, cell_below_keep hb h.2.1, frozen_below_kE hb h.1 h.2.2.1, frozen_below_kE hb h.2.1 h.2.2.2⟩
theorem Cell2.new (W : World) (x y : Int) (T : TypeId) : Cell2 (W.alloc (.cells #[.int .i64 x, .int .i64 y] T)) W.heap.size x y := by
  refine ⟨?_, ?_, ?_, ?_⟩ <;> simp [go_sem]
theorem Cell2.lt {W : World} {R : Nat} {x y : Int} (h : Cell2 W R x y) : R < W.heap.size := World.block_lt_of_cell? W _ h.1
theorem Cell2.drew {W : World} {R : Nat} {x y : Int} (h : Cell2 W R x y) : Cell2 W.drew R x y := h
theorem Cell2.set {W : World} {R : Nat} {x y : Int} (h : Cell2 W R x y) (x' y' : Int) : Cell2 ((W.setCell ⟨R, 0, none⟩ (.int .i64 x')).setCell ⟨R, 1, none⟩ (.int .i64 y')) R x' y' := by
  obtain ⟨h1, h2, h3, h4⟩ := h
  refine ⟨?_, ?_, ?_, ?_⟩ <;> simp [go_sem, h1, h2, h3, h4]
theorem Cell2.other {W : World} {R S : Nat} {x y : Int} (h : Cell2 W R x y) (hne : R ≠ S) (i : Nat) (v : Value) : Cell2 (W.setCell ⟨S, i, none⟩ v) R x y := by
  have hb : (W.setCell ⟨S, i, none⟩ v).heap[R]? = W.heap[R]? := Deep.blk_setCell_other _ _ _ _ hne
  obtain ⟨h1, h2, h3, h4⟩ := h
  exact ⟨(World.cell?_of_block (a := ⟨R, 0, none⟩) hb).trans h1, (World.cell?_of_block (a := ⟨R, 1, none⟩) hb).trans h2, (World.frozen?_of_block (a := ⟨R, 0, none⟩) hb).trans h3, (World.frozen?_of_block (a := ⟨R, 1, none⟩) hb).trans h4⟩
set_option maxHeartbeats 2000000 in
theorem sSquare (t l g : Int) (w : World) :
    Calls Tryd.prog 78 #[.agg #[.int .i64 t, .int .i64 l], .int .i64 g] w fun e w' => e = .returned (.tuple #[.agg #[.int .i64 (sqT t l g), .int .i64 (sqL t l g)], .bool (sqK t l g)]) ∧ Below w.heap.size w w' := by
  have c1 := fun w => Lib.hid (sTimes_any t l t l w)
  have hA : Quo.gT (Quo.both t l t l) (t * t) (l * l) = sqA t l := rfl
  have hB : Quo.gL (Quo.both t l t l) (t * t) (l * l) = sqB t l := rfl
  have hO : Quo.gOk (Quo.both t l t l) (t * t) (l * l) = sqO t l := rfl
  rw [hA, hB, hO] at c1
  obtain ⟨a, ha⟩ : ∃ a, sqA t l = a := ⟨_, rfl⟩
  obtain ⟨b, hb⟩ : ∃ b, sqB t l = b := ⟨_, rfl⟩
  cases ho : sqO t l
  · have h1 : sqT t l g = 0 := by unfold sqT; rw [ho]; rfl
    have h2 : sqL t l g = 0 := by unfold sqL; rw [ho]; rfl
    have h3 : sqK t l g = false := by unfold sqK; rw [ho]; rfl
    rw [h1, h2, h3]
    rw [ha, hb, ho] at c1
    clear hA hB hO ha hb ho h1 h2 h3
    go_enter Tryd.func78, Tryd.ntmps78
    go_upto_region 3 with ((go_at_call 110; (with_reducible refine ((c1 _).out).mono ?_); rintro e wa ⟨rfl, hb_wa⟩; have hs_wa := hb_wa.size; (try simp at hs_wa)))
    have hR := ((Cell2.new (w.alloc (.cells #[.int .i64 t, .int .i64 l] 31)) 0 0 31).below hb_wa).below ((Below.refl _ _).alloc (Nat.le_refl _) (.cells #[.int .i64 a, .int .i64 b] 31))
    have hB : Below w.heap.size w (wa.alloc (.cells #[.int .i64 a, .int .i64 b] 31)) := (by repeat (first | assumption | exact Below.refl _ _ | (refine below_chain ?_ (by assumption) (by first | omega | (simp <;> omega) | simp)) | (refine Below.alloc ?_ (by first | omega | (simp <;> omega) | simp) _) | (apply below_drewN) | (apply below_drew) | (refine Below.setCell ?_ (by first | omega | (simp <;> omega) | simp) _)))
    obtain ⟨V, hV⟩ : ∃ V, V = wa.alloc (.cells #[.int .i64 a, .int .i64 b] 31) := ⟨_, rfl⟩
    rw [← hV] at hR hB ⊢
    have e : (w.alloc (.cells #[.int .i64 t, .int .i64 l] 31)).heap.size = w.heap.size + 1 := by simp
    rw [e] at hR
    obtain ⟨q1, q2, q3, q4⟩ := hR
    clear hb_wa hV
    go_wp2_with fail
    refine bodyPost_ret (v := .tuple #[.agg #[.int .i64 0, .int .i64 0], .bool false]) (by simp [results, Tryd.results78, go_sem, q1, q2]) rfl ⟨rfl, (hB.setCell (by simp) _).setCell (by simp) _⟩
  · have c2 := fun w => Lib.hid (sTimes_any a b g 1 w)
    have h1 : sqT t l g = Quo.gT (Quo.both a b g 1) (a * g) (b * 1) := by unfold sqT; rw [if_pos ho, ha, hb]
    have h2 : sqL t l g = Quo.gL (Quo.both a b g 1) (a * g) (b * 1) := by unfold sqL; rw [if_pos ho, ha, hb]
    have h3 : sqK t l g = Quo.gOk (Quo.both a b g 1) (a * g) (b * 1) := by unfold sqK; rw [if_pos ho, ha, hb]
    rw [h1, h2, h3]
    rw [ha, hb, ho] at c1
    obtain ⟨X, hX⟩ : ∃ X, Quo.gT (Quo.both a b g 1) (a * g) (b * 1) = X := ⟨_, rfl⟩
    obtain ⟨Y, hY⟩ : ∃ Y, Quo.gL (Quo.both a b g 1) (a * g) (b * 1) = Y := ⟨_, rfl⟩
    obtain ⟨Z, hZ⟩ : ∃ Z, Quo.gOk (Quo.both a b g 1) (a * g) (b * 1) = Z := ⟨_, rfl⟩
    rw [hX, hY, hZ] at c2 ⊢
    clear hA hB hO ha hb ho h1 h2 h3 hX hY hZ
    go_enter Tryd.func78, Tryd.ntmps78
    go_upto_region 4 with ((go_at_call 110; (with_reducible refine ((c1 _).out).mono ?_); rintro e wa ⟨rfl, hb_wa⟩; have hs_wa := hb_wa.size; (try simp at hs_wa)))
    have hR := ((Cell2.new (w.alloc (.cells #[.int .i64 t, .int .i64 l] 31)) 0 0 31).below hb_wa).below ((Below.refl _ _).alloc (Nat.le_refl _) (.cells #[.int .i64 a, .int .i64 b] 31))
    have hB : Below w.heap.size w (wa.alloc (.cells #[.int .i64 a, .int .i64 b] 31)) := (by repeat (first | assumption | exact Below.refl _ _ | (refine below_chain ?_ (by assumption) (by first | omega | (simp <;> omega) | simp)) | (refine Below.alloc ?_ (by first | omega | (simp <;> omega) | simp) _) | (apply below_drewN) | (apply below_drew) | (refine Below.setCell ?_ (by first | omega | (simp <;> omega) | simp) _)))
    have hA := Cell2.new wa a b 31
    obtain ⟨V, hV⟩ : ∃ V, V = wa.alloc (.cells #[.int .i64 a, .int .i64 b] 31) := ⟨_, rfl⟩
    rw [← hV] at hR hB hA ⊢
    have e : (w.alloc (.cells #[.int .i64 t, .int .i64 l] 31)).heap.size = w.heap.size + 1 := by simp
    rw [e] at hR
    have HR := Lib.hid hR
    have HB := Lib.hid hB
    obtain ⟨p1, p2, p3, p4⟩ := hA
    clear hb_wa hV c1 hR hB
    go_wp2_with ((go_at_call 110; (with_reducible refine ((c2 _).out).mono ?_); rintro e wb ⟨rfl, hb_wb⟩; have hs_wb := hb_wb.size; (try simp at hs_wb)); obtain ⟨q1, q2, q3, q4⟩ := HR.out.below hb_wb)
    refine bodyPost_ret (v := .tuple #[.agg #[.int .i64 X, .int .i64 Y], .bool Z]) (by simp [results, Tryd.results78, go_sem, q1, q2]) rfl ⟨rfl, ((HB.out.trans (hb_wb.mono HB.out.size)).setCell (by simp) _).setCell (by simp) _⟩
theorem gen_exitE {Q : Exit → Act → World → Prop} {x : Exit} {a : Act} {W : World} (p : World → Prop) (h : p W) (k : ∀ W', p W' → Q x a W') : Q x a W := k W h
/-- one run more in the sum -/
def stO (fA fB : Rn → Int) (fP : Rn → Bool) (s : Int × Int) (r : Rn) : Bool := fP r && sqK (fA r) (fB r) r.g && Quo.gOk (Quo.both s.1 s.2 (sqT (fA r) (fB r) r.g) (sqL (fA r) (fB r) r.g)) (s.1 * sqL (fA r) (fB r) r.g + sqT (fA r) (fB r) r.g * s.2) (s.2 * sqL (fA r) (fB r) r.g)
def stV (fA fB : Rn → Int) (s : Int × Int) (r : Rn) : Int × Int := (Quo.gT (Quo.both s.1 s.2 (sqT (fA r) (fB r) r.g) (sqL (fA r) (fB r) r.g)) (s.1 * sqL (fA r) (fB r) r.g + sqT (fA r) (fB r) r.g * s.2) (s.2 * sqL (fA r) (fB r) r.g), Quo.gL (Quo.both s.1 s.2 (sqT (fA r) (fB r) r.g) (sqL (fA r) (fB r) r.g)) (s.1 * sqL (fA r) (fB r) r.g + sqT (fA r) (fB r) r.g * s.2) (s.2 * sqL (fA r) (fB r) r.g))
def sumS (fA fB : Rn → Int) (fP : Rn → Bool) : List Rn → Int × Int → Option (Int × Int)
  | [], s => some s
  | r :: l, s => if stO fA fB fP s r = true then sumS fA fB fP l (stV fA fB s r) else none
/-- what AdjustSum answers -/
def smV (n : Nat) (rs : List Rn) : Option (Int × Int) := sumS (rsT n rs) (rsL n rs) (rsB n rs) rs (0, 1)
def sumA (o : Option (Int × Int)) : Value := match o with
  | some s => .tuple #[.agg #[.int .i64 s.1, .int .i64 s.2], .bool true]
  | none => .tuple #[.agg #[.int .i64 0, .int .i64 0], .bool false]
theorem sum_step {fA fB : Rn → Int} {fP : Rn → Bool} {rs : List Rn} {k : Nat} {r : Rn} {s : Int × Int} (hr : rs[k]? = some r) : sumS fA fB fP (rs.drop k) s = if stO fA fB fP s r = true then sumS fA fB fP (rs.drop (k + 1)) (stV fA fB s r) else none := by
  have h : rs.drop k = r :: rs.drop (k + 1) := by
    rw [← (List.getElem?_eq_some_iff.1 hr).2, List.getElem_cons_drop]
  rw [h]; rfl
set_option maxHeartbeats 8000000 in
set_option maxRecDepth 100000 in
theorem sSum_at (N : Nat) (fA fB : Rn → Int) (fP : Rn → Bool) (p : Option Addr) (c m : Nat) (rs : List Rn) (w : World) (h : Runs w p rs) (hw : nWhole (N : Int) rs = true) (hm : rs.length = m)
    (c2 : ∀ (k : Nat) (r : Rn), rs[k]? = some r → ∀ w, Runs w p rs → Hid (Calls Tryd.prog 28 #[.int .i64 N, .slice p m c, .int .i64 k] w fun e w' => e = .returned (.tuple #[.agg #[.int .i64 (fA r), .int .i64 (fB r)], .bool (fP r)]) ∧ Below w.heap.size w w')) :
    Calls Tryd.prog 45 #[.int .i64 N, .slice p m c] w fun e w' => e = .returned (sumA (sumS fA fB fP rs (0, 1))) ∧ Below w.heap.size w w' := by
  have hn := (whole_iff.1 hw).1
  have hl : m ≤ 12 := by rw [← hm]; exact (nOk_true hn).2.2.1
  have c1 := fun w h => Lib.hid (sWhole_m (p := p) (c := c) w hm h (by omega) hw)
  have H := Lib.hid (And.intro h hm)
  obtain ⟨O, hO⟩ : ∃ O, sumS fA fB fP rs (0, 1) = O := ⟨_, rfl⟩
  have HO := Lib.hid hO
  rw [hO]
  clear h hw hn hm hO
  go_enter Tryd.func45, Tryd.ntmps45
  go_upto_region 4 with ((go_at_call 54; (with_reducible refine ((c1 _ ?_).out).mono ?_); (focus ((exact H.out.1.below (by repeat (first | assumption | exact Below.refl _ _ | (refine below_chain ?_ (by assumption) (by first | omega | (simp <;> omega) | simp)) | (refine Below.alloc ?_ (by first | omega | (simp <;> omega) | simp) _) | (apply below_drewN) | (apply below_drew) | (refine Below.setCell ?_ (by first | omega | (simp <;> omega) | simp) _)))); done)); rintro e wa ⟨rfl, hb_wa⟩; have hs_wa := hb_wa.size; (try simp at hs_wa)))
  have hR := (Cell2.new w 0 0 31).below hb_wa
  have hB : Below w.heap.size w wa := (by repeat (first | assumption | exact Below.refl _ _ | (refine below_chain ?_ (by assumption) (by first | omega | (simp <;> omega) | simp)) | (refine Below.alloc ?_ (by first | omega | (simp <;> omega) | simp) _) | (apply below_drewN) | (apply below_drew) | (refine Below.setCell ?_ (by first | omega | (simp <;> omega) | simp) _)))
  have hal : Below wa.heap.size wa (wa.alloc (.cells #[.int .i64 0, .int .i64 1] 31)) := (Below.refl _ _).alloc (Nat.le_refl _) _
  have hS := Cell2.new wa 0 1 31
  have hR := hR.below hal
  have hB := hB.trans (hal.mono hB.size)
  have hRS : w.heap.size < wa.heap.size := by omega
  obtain ⟨S, hSe⟩ : ∃ S, S = wa.heap.size := ⟨_, rfl⟩
  have HI := Lib.hid (And.intro hR (And.intro hS hB))
  rw [← hSe] at hRS HI ⊢
  clear hb_wa hs_wa hR hB hal hS hSe c1
  go_wp2_with fail
  go_loopw [7] (fun i wr => ∃ (k : Nat) (s : Int × Int), k ≤ m ∧ i = .int .i64 k ∧ sumS fA fB fP (rs.drop k) s = O ∧ Cell2 wr w.heap.size 0 0 ∧ Cell2 wr S s.1 s.2 ∧ Below w.heap.size w wr) (fun i _ => m - (intOf i).toNat)
  case atStart => exact ⟨0, (0, 1), Nat.zero_le _, rfl, HO.out, HI.out.1, HI.out.2.1, HI.out.2.2⟩
  case round =>
    clear HI
    rename World => wr
    obtain ⟨k, ⟨x, y⟩, hk, rfl, hs, hR, hS, hb⟩ := hrel
    have hbs := hb.size
    have hSl := hS.lt
    have HB := Lib.hid (And.intro hR (And.intro hS hb))
    by_cases hlt : k < m
    · have hlt' : (k : Int) < (m : Int) := by omega
      obtain ⟨B, o, r, rfl, hr, hB, e1, e2, e3, e4⟩ := (H.out.1.below hb).at (i := k) (by rw [H.out.2]; exact hlt)
      have c2k := fun w h => Lib.hid (c2 k r hr w h).out
      rw [sum_step hr] at hs
      obtain ⟨a, ha⟩ : ∃ a, fA r = a := ⟨_, rfl⟩
      obtain ⟨b, hb'⟩ : ∃ b, fB r = b := ⟨_, rfl⟩
      obtain ⟨P, hP⟩ : ∃ b, fP r = b := ⟨_, rfl⟩
      rw [ha, hb', hP] at c2k
      have c3 := fun w => Lib.hid (sSquare a b r.g w)
      obtain ⟨a2, ha2⟩ : ∃ x, sqT a b r.g = x := ⟨_, rfl⟩
      obtain ⟨b2, hb2⟩ : ∃ x, sqL a b r.g = x := ⟨_, rfl⟩
      obtain ⟨Q, hQ⟩ : ∃ x, sqK a b r.g = x := ⟨_, rfl⟩
      rw [ha2, hb2, hQ] at c3
      have c4 := fun w => Lib.hid (sAdd_any x y a2 b2 w)
      obtain ⟨a3, ha3⟩ : ∃ z, Quo.gT (Quo.both x y a2 b2) (x * b2 + a2 * y) (y * b2) = z := ⟨_, rfl⟩
      obtain ⟨b3, hb3⟩ : ∃ z, Quo.gL (Quo.both x y a2 b2) (x * b2 + a2 * y) (y * b2) = z := ⟨_, rfl⟩
      obtain ⟨R, hRr⟩ : ∃ z, Quo.gOk (Quo.both x y a2 b2) (x * b2 + a2 * y) (y * b2) = z := ⟨_, rfl⟩
      rw [ha3, hb3, hRr] at c4
      have hO1 : stO fA fB fP (x, y) r = (P && Q && R) := by
        show (fP r && sqK (fA r) (fB r) r.g && Quo.gOk (Quo.both x y (sqT (fA r) (fB r) r.g) (sqL (fA r) (fB r) r.g)) (x * sqL (fA r) (fB r) r.g + sqT (fA r) (fB r) r.g * y) (y * sqL (fA r) (fB r) r.g)) = _
        rw [ha, hb', hP, ha2, hb2, hQ, hRr]
      have hV1 : stV fA fB (x, y) r = (a3, b3) := by
        show (Quo.gT (Quo.both x y (sqT (fA r) (fB r) r.g) (sqL (fA r) (fB r) r.g)) (x * sqL (fA r) (fB r) r.g + sqT (fA r) (fB r) r.g * y) (y * sqL (fA r) (fB r) r.g), Quo.gL (Quo.both x y (sqT (fA r) (fB r) r.g) (sqL (fA r) (fB r) r.g)) (x * sqL (fA r) (fB r) r.g + sqT (fA r) (fB r) r.g * y) (y * sqL (fA r) (fB r) r.g)) = _
        rw [ha, hb', ha2, hb2, ha3, hb3]
      rw [hO1, hV1] at hs
      have HS := Lib.hid hs
      clear hs hO1 hV1 ha hb' hP ha2 hb2 hQ ha3 hb3 hRr hR hS hb hr e1 e2 e3 c2
      go_upto_region 8 with ((go_at_call 28; (with_reducible refine ((c2k _ ?_).out).mono ?_); (focus ((exact H.out.1.below HB.out.2.2); done)); rintro e wx ⟨rfl, hb_wx⟩; have hs_wx := hb_wx.size; (try simp at hs_wx)))
      have hal : Below wx.heap.size wx (wx.alloc (.cells #[.int .i64 a, .int .i64 b] 31)) := (Below.refl _ _).alloc (Nat.le_refl _) _
      have hX := Cell2.new wx a b 31
      have hBx := hb_wx.trans (hal.mono hs_wx)
      obtain ⟨V, hV⟩ : ∃ V, V = wx.alloc (.cells #[.int .i64 a, .int .i64 b] 31) := ⟨_, rfl⟩
      obtain ⟨X, hXe⟩ : ∃ X, X = wx.heap.size := ⟨_, rfl⟩
      rw [← hV] at hX hBx ⊢
      rw [← hXe] at hX ⊢
      have HV := Lib.hid (And.intro (HB.out.1.below hBx) (And.intro (HB.out.2.1.below hBx) (HB.out.2.2.trans (hBx.mono hbs))))
      have d4 := cell_below_keep hBx e4
      have hXs : wr.heap.size ≤ X := by omega
      have HX := Lib.hid hX
      obtain ⟨x1, x2, x3, x4⟩ := hX
      clear hal hBx hV hXe hb_wx hs_wx e4 HB c2k
      have hXl : X < V.heap.size := HX.out.lt
      have hBl : B < V.heap.size := World.block_lt_of_cell? V _ d4
      go_region_with (go_at_call 78; (with_reducible refine ((c3 _).out).mono ?_); rintro e w2 ⟨rfl, hb_w2⟩; first | (have hV2 : Below V.heap.size V w2 := ((below_drew (Below.refl _ _)).trans hb_w2); have l1 := cell_below_keep hV2 x1; have l2 := cell_below_keep hV2 x2; have l3 := cell_below_keep hV2 d4) | (have hV2 : Below V.heap.size V w2 := (((below_drew (Below.refl V.heap.size V)).alloc (Nat.le_refl _) (.cells #[.int .i64 0, .int .i64 0] 31)).trans (hb_w2.mono (by simp))); have l1 := cell_below_keep hV2 x1; have l2 := cell_below_keep hV2 x2; have l3 := cell_below_keep hV2 d4; have hY0 : Cell2 w2 V.heap.size 0 0 := (Cell2.new V.drew 0 0 31).below hb_w2; obtain ⟨y1, y2, y3, y4⟩ := hY0))
      all_goals
        first
        | (have hYA := Cell2.new w2 a2 b2 31
           have hBA : Below V.heap.size V (w2.alloc (.cells #[.int .i64 a2, .int .i64 b2] 31)) := hV2.alloc hV2.size _
           have hYg := hV2.size
           obtain ⟨Y, hYe⟩ : ∃ Y, w2.heap.size = Y := ⟨_, rfl⟩
           rw [hYe] at hYA hYg ⊢
           refine gen_exitE (fun W => Cell2 W Y a2 b2 ∧ Below V.heap.size V W) ⟨hYA, hBA⟩ (fun W hW => ?_))
        | (have hYA := (show Cell2 w2 V.heap.size 0 0 from ⟨y1, y2, y3, y4⟩).set a2 b2
           have hBA : Below V.heap.size V ((w2.setCell ⟨V.heap.size, 0, none⟩ (.int .i64 a2)).setCell ⟨V.heap.size, 1, none⟩ (.int .i64 b2)) := (hV2.setCell (Nat.le_refl _) _).setCell (Nat.le_refl _) _
           have hYg := Nat.le_refl V.heap.size
           obtain ⟨Y, hYe⟩ : ∃ Y, V.heap.size = Y := ⟨_, rfl⟩
           refine gen_exitE (fun W => Cell2 W V.heap.size a2 b2 ∧ Below V.heap.size V W) ⟨hYA, hBA⟩ (fun W hW => ?_)
           have hW1 := hW.1
           have hW2 := hW.2
           rw [hYe] at hW1 hYg ⊢
           have hW := And.intro hW1 hW2)
      all_goals
        obtain ⟨hY, hBW⟩ := hW
        have HW := Lib.hid (And.intro (HV.out.1.below hBW) (And.intro (HV.out.2.1.below hBW) (HV.out.2.2.trans (hBW.mono HV.out.2.2.size))))
        obtain ⟨s1, s2, s3, s4⟩ := HW.out.2.1
        obtain ⟨t1, t2, t3, t4⟩ := hY
        have hsW := HW.out.2.2.size
        clear hBW hYA hBA hYg HV HX x1 x2 x3 x4 d4 l1 l2 l3 hV2 hb_w2 c3
        go_upto_region 10 with ((go_at_call 79; (with_reducible refine ((c4 _).out).mono ?_); rintro e wz ⟨rfl, hb_wz⟩; have hs_wz := hb_wz.size; (try simp at hs_wz)))
        have hZ := Cell2.new wz a3 b3 31
        have hBz := hb_wz.alloc hs_wz (.cells #[.int .i64 a3, .int .i64 b3] 31)
        have HU := Lib.hid (And.intro (HW.out.1.below hBz) (And.intro (HW.out.2.1.below hBz) (HW.out.2.2.trans (hBz.mono hsW))))
        obtain ⟨U, hU⟩ : ∃ U, U = wz.alloc (.cells #[.int .i64 a3, .int .i64 b3] 31) := ⟨_, rfl⟩
        have hZS : S < wz.heap.size := Nat.lt_of_lt_of_le (HW.out.2.1.lt) hs_wz
        obtain ⟨Z, hZe⟩ : ∃ Z, Z = wz.heap.size := ⟨_, rfl⟩
        rw [← hU] at hZ HU ⊢
        rw [← hZe] at hZ hZS ⊢
        obtain ⟨z1, z2, z3, z4⟩ := hZ
        obtain ⟨q1, q2, q3, q4⟩ := HU.out.1
        obtain ⟨p1, p2, p3, p4⟩ := HU.out.2.1
        have hne1 : ¬ Z = S := by omega
        have hne2 : ¬ S = Z := by omega
        clear hb_wz hs_wz hBz hU hZe HW s1 s2 s3 s4 t1 t2 t3 t4 c4 hsW
        have hSw : ¬ w.heap.size = S := by omega
        cases P
        · have hO : O = none := HS.out.symm
          go_wp2_with fail
          refine bodyPost_ret (v := .tuple #[.agg #[.int .i64 0, .int .i64 0], .bool false]) (by simp [results, Tryd.results45, go_sem, q1, q2]) rfl ⟨by first | rfl | (rw [hO]; rfl), (HU.out.2.2.setCell (Nat.le_refl _) _).setCell (Nat.le_refl _) _⟩
        · cases Q
          · have hO : O = none := HS.out.symm
            go_wp2_with fail
            refine bodyPost_ret (v := .tuple #[.agg #[.int .i64 0, .int .i64 0], .bool false]) (by simp [results, Tryd.results45, go_sem, q1, q2]) rfl ⟨by first | rfl | (rw [hO]; rfl), (HU.out.2.2.setCell (Nat.le_refl _) _).setCell (Nat.le_refl _) _⟩
          · cases R
            · have hO : O = none := HS.out.symm
              go_wp2_with fail
              refine bodyPost_ret (v := .tuple #[.agg #[.int .i64 0, .int .i64 0], .bool false]) (by simp [results, Tryd.results45, go_sem, q1, q2]) rfl ⟨by first | rfl | (rw [hO]; rfl), (HU.out.2.2.setCell (Nat.le_refl _) _).setCell (Nat.le_refl _) _⟩
            · go_wp2_with fail
              go_roundw
              case rel => exact ⟨k + 1, (a3, b3), by omega, by go_num, HS.out, (HU.out.1.other hSw 0 _).other hSw 1 _, HU.out.2.1.set a3 b3, (HU.out.2.2.setCell (by show w.heap.size ≤ S; omega) _).setCell (by show w.heap.size ≤ S; omega) _⟩
              case measure => simp [intOf]; omega
    · have e : k = m := by omega
      subst e
      rw [List.drop_eq_nil_of_le (by rw [H.out.2]; exact Nat.le_refl _)] at hs
      have hO : O = some (x, y) := hs.symm
      obtain ⟨q1, q2, q3, q4⟩ := hR
      obtain ⟨p1, p2, p3, p4⟩ := hS
      have hSw : ¬ w.heap.size = S := by omega
      have hSw' : ¬ S = w.heap.size := by omega
      clear hs hb
      go_wp2_with fail
      refine bodyPost_ret (v := .tuple #[.agg #[.int .i64 x, .int .i64 y], .bool true]) (by simp [results, Tryd.results45, go_sem, q1, q2]) rfl ⟨by first | rfl | (rw [hO]; rfl), (HB.out.2.2.setCell (Nat.le_refl _) _).setCell (Nat.le_refl _) _⟩
theorem sSum_yes (N n : Nat) (p : Option Addr) (c m : Nat) (rs : List Rn) (w : World) (h : Runs w p rs) (ha : adjOk (N : Int) rs = true) (hm : rs.length = m) (hNn : N = n + 1) :
    Calls Tryd.prog 45 #[.int .i64 N, .slice p m c] w fun e w' => e = .returned (sumA (smV n rs)) ∧ Below w.heap.size w w' :=
  sSum_at N _ _ _ p c m rs w h (adj_true ha hNn).1 hm (fun k r hr w h => Lib.hid (sRest_yes N n k p c m rs r w h ha hm hNn hr))
theorem whole_runs {N : Nat} {rs : List Rn} (hw : nWhole (N : Int) rs = true) : rs ≠ [] := by
  intro e
  subst e
  have hn := (whole_iff.1 hw).1
  have h2 := (nOk_true hn).1
  have h1 := (whole_spn hn).1 hw
  exact h1 (fun x => x = 1) (fun r hr => by simp at hr) (fun s _ hs => by
    have : s = 0 := by simpa [S0] using hs
    omega) 1 (by omega) rfl
set_option maxHeartbeats 2000000 in
theorem sSum_no (n : Int) (p : Option Addr) (c m : Nat) (rs : List Rn) (w : World) (h : Runs w p rs) (hm : rs.length = m) (hl : m ≤ 4000000000000000000) (ha : adjOk n rs = false) :
    Calls Tryd.prog 45 #[.int .i64 n, .slice p m c] w fun e w' => e = .returned (.tuple #[.agg #[.int .i64 0, .int .i64 0], .bool false]) ∧ Below w.heap.size w w' := by
  cases hw : nWhole n rs
  · have c1 := fun w h => Lib.hid (sWhole_m (p := p) (c := c) w hm h hl hw)
    have H := Lib.hid h
    clear h hm ha hw
    go_enter Tryd.func45, Tryd.ntmps45
    go_upto_region 2 with ((go_at_call 54; (with_reducible refine ((c1 _ ?_).out).mono ?_); (focus ((exact H.out.below (by repeat (first | assumption | exact Below.refl _ _ | (refine below_chain ?_ (by assumption) (by first | omega | (simp <;> omega) | simp)) | (refine Below.alloc ?_ (by first | omega | (simp <;> omega) | simp) _) | (apply below_drewN) | (apply below_drew) | (refine Below.setCell ?_ (by first | omega | (simp <;> omega) | simp) _)))); done)); rintro e wa ⟨rfl, hb_wa⟩; have hs_wa := hb_wa.size; (try simp at hs_wa)))
    obtain ⟨q1, q2, q3, q4⟩ := res_cell hb_wa
    have hBa : Below w.heap.size w wa := (by repeat (first | assumption | exact Below.refl _ _ | (refine below_chain ?_ (by assumption) (by first | omega | (simp <;> omega) | simp)) | (refine Below.alloc ?_ (by first | omega | (simp <;> omega) | simp) _) | (apply below_drewN) | (apply below_drew) | (refine Below.setCell ?_ (by first | omega | (simp <;> omega) | simp) _)))
    go_wp2_with fail
    refine bodyPost_ret (v := .tuple #[.agg #[.int .i64 0, .int .i64 0], .bool false]) (by simp [results, Tryd.results45, go_sem, q1, q2]) rfl ⟨rfl, (hBa.setCell (Nat.le_refl _) _).setCell (Nat.le_refl _) _⟩
  · obtain ⟨N, M, rfl, hNM⟩ := whole_nat hw
    have h1 := sSum_at N (fun _ => 0) (fun _ => 0) (fun _ => false) p c m rs w h hw hm (fun k r hr w h => Lib.hid (sRest_no N k p c m rs w h hm hl (fun hc => by rw [ha] at hc; exact absurd hc.1 (by simp))))
    have h2 : sumS (fun _ => 0) (fun _ => 0) (fun _ => false) rs (0, 1) = none := by
      cases rs with
      | nil => exact absurd rfl (whole_runs hw)
      | cons r l => rfl
    rw [h2] at h1
    exact h1
end Go.Proofs.YtddmbjobibljaaaDoor
