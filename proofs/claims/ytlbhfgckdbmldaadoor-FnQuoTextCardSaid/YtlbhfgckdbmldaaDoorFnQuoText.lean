/-
  For every code the law FnQuoText returns true: a text has a slash just where the quotient is not whole, and other quotients have other texts. Conditions: the tables of Go's own library that strconv.Itoa reads hold what their initialisers lay (the card ties that to the program's text, pruned to the packages that the law loads). Every list of bytes is taken.
-/
import Derived.Test.YtlbhfgckdbmldaaDoorCards
import Derived.Test.YtlbhfgckdbmldaaDoorTie
import Derived.Test.YtlbhfgckdbmldaaDoorCode
import Derived.Test.YtlbhfgckdbmldaaDoorDQuo
import Derived.Test.YtlbhfgckdbmldaaDoorQh
import Derived.Test.YtlbhfgckdbmldaaDoorTextM
import Derived.Deep.DeepHandedRow
import Derived.Lib.LaidTab
import Derived.LaidMore
import Derived.Stop.LaidErr
import Derived.Deep.RegionHeld3
import Derived.Deep.DeepCutAuto
namespace Go.Proofs.YtlbhfgckdbmldaaDoor.fnQuoText
open Go.ChangeShapes Go.WideShapes Go.ChangeAt Go.RowKit
set_option linter.unusedVariables false

theorem code_below {w w' : World} {v : Value} (h : Code' w v) (hb : Below w.heap.size w w') : Code' w' v := by
  rcases h with ⟨a, c, rfl⟩ | ⟨D, off, len, cap, f, rfl, h1, h2, h3, h4, h5⟩
  · exact .inl ⟨a, c, rfl⟩
  · refine .inr ⟨D, off, len, cap, f, rfl, h1, h2, h3, Nat.lt_of_lt_of_le h4 hb.size, fun j hj => ?_⟩
    rw [hb.cell (p := ⟨D, off + j, none⟩) h4]
    exact h5 j hj

def DOne (w : World) (e : Ending) (w' : World) : Prop :=
  ∃ a b : Int, -1000000000 ≤ a ∧ a ≤ 1000000000 ∧ -1000000000 ≤ b ∧ b ≤ 1000000000 ∧ e = .returned (.agg #[.int .i64 a, .int .i64 b]) ∧ Below w.heap.size w w'

set_option maxHeartbeats 4000000 in
theorem drawText_any (v : Value) (w : World) (h : Hid (Code' w v)) :
    Calls Tryd.prog 5 #[v] w (DOne w) := by
  go_enter Tryd.func5, Tryd.ntmps5
  go_wp2_with (first | (go_at_call 12; (with_reducible refine (open_any _ _ (Lib.hid (code_below h.out ?_))).mono ?_); (focus ((repeat (first | assumption | exact Below.refl _ _ | (refine below_chain ?_ (by assumption) (by first | omega | (simp <;> omega) | simp)) | (refine Below.alloc ?_ (by first | omega | (simp <;> omega) | simp) _) | (apply below_drewN) | (apply below_drew) | (refine Below.setCell ?_ (by first | omega | (simp <;> omega) | simp) _))); done)); rintro e wo ⟨rfl, hRn, hbn, hszo⟩; obtain ⟨hcn, hfn⟩ := bcell hbn; have hsz := Nat.le_of_eq hszo.symm; (try simp at hsz); (try simp at hRn); have hsl := Nat.lt_of_succ_le hsz; (try have hzo : w.heap.size < wo.heap.size := by omega); (try have hzo1 : w.heap.size + 1 < wo.heap.size := by omega); clear hszo) | (go_at_call 11; (with_reducible refine (dquo_any 0 _ _ ?_ (by omega)).mono ?_); (focus ((repeat (first | with_reducible assumption | (with_reducible refine rdr_drewN ?_ _) | (with_reducible refine rdr_drew ?_) | (with_reducible refine rdr_alloc ?_ _) | (with_reducible refine rdr_setCell ?_ (by first | omega | (simp <;> omega) | simp) _) | (with_reducible refine rdr_chain ?_ (by with_reducible assumption)))); done)); rintro e wa ⟨a0, b0, q0, q1, q2, q3, rfl, hRn, hgn⟩; obtain ⟨hcn, hfn⟩ := gcell hgn; (try simp only [World.size_drew, World.cell?_drew, World.frozen?_drew] at hcn hfn); have hsz := hgn.size; (try simp at hsz); (try have hsl := Nat.lt_of_succ_le hsz); (try have hz0 : w.heap.size < wa.heap.size := (by have := hgn.size; (try simp at this); omega)); (try have hq0 : w.heap.size ≠ (w.heap.size + 1) := (by omega))))
  have e0 : wa.cell? ⟨w.heap.size, 0, none⟩ = some (.int .i64 0) := by simp [*, go_sem]
  have e1 : wa.cell? ⟨w.heap.size, 1, none⟩ = some (.int .i64 0) := by simp [*, go_sem]
  exact bodyPost_ret (v := .agg #[.int .i64 a0, .int .i64 b0]) (by simp [results, Tryd.results5, go_sem, e0, e1]) rfl ⟨a0, b0, q0, q1, q2, q3, rfl, (by repeat (first | with_reducible assumption | with_reducible exact Below.refl _ _ | (with_reducible refine below_chain ?_ (by with_reducible assumption) (by first | omega | (simp <;> omega) | simp)) | (with_reducible refine below_gb ?_ (by with_reducible assumption) (by first | omega | (simp <;> omega) | simp) (by first | omega | (simp <;> omega) | simp)) | (with_reducible refine Below.alloc ?_ (by first | omega | (simp <;> omega) | simp) _) | (with_reducible refine below_drewN ?_ _) | (with_reducible refine below_drew ?_) | (with_reducible refine Below.setCell ?_ (by first | omega | (simp <;> omega) | simp) _)))⟩

theorem iText_eq (t l : Int) (s : ByteArray) (w : World) (h : ⟨(text t l).toArray⟩ = s) (ht : Hid (Tab w)) :
    Calls Tryd.prog 6 #[.agg #[.int .i64 t, .int .i64 l]] w fun e w' => e = .returned (.string s) ∧ Below w.heap.size w w' := by
  rw [← h]; exact iText_any t l w ht
theorem sText_eq (t l : Int) (s : ByteArray) (w : World) (h : ⟨(text t l).toArray⟩ = s) :
    Calls Tryd.prog 7 #[.agg #[.int .i64 t, .int .i64 l]] w fun e w' => e = .returned (.string s) ∧ Below w.heap.size w w' := by
  rw [← h]; exact sText_any t l w

theorem iAdd_eq (t l s m x y : Int) (c : Bool) (w : World) (h : Quo.gT (Quo.both t l s m) (t * m + s * l) (l * m) = x ∧ Quo.gL (Quo.both t l s m) (t * m + s * l) (l * m) = y ∧ Quo.gOk (Quo.both t l s m) (t * m + s * l) (l * m) = c) :
    Calls Tryd.prog 8 #[.agg #[.int .i64 t, .int .i64 l], .agg #[.int .i64 s, .int .i64 m]] w fun e w' => e = .returned (.tuple #[.agg #[.int .i64 x, .int .i64 y], .bool c]) ∧ Below w.heap.size w w' := by
  rw [← h.1, ← h.2.1, ← h.2.2]; exact iAdd_any t l s m w
theorem whole_any (n : Int) (w : World) :
    Calls Tryd.prog 9 #[.int .i64 n] w fun e w' => e = .returned (.agg #[.int .i64 n, .int .i64 1]) ∧ Below w.heap.size w w' := by
  go_enter Tryd.func9, Tryd.ntmps9
  go_wp2
  exact bodyPost_ret (v := .agg #[.int .i64 n, .int .i64 1]) (by simp [results, Tryd.results9, go_sem]) rfl ⟨rfl, (by repeat (first | with_reducible assumption | with_reducible exact Below.refl _ _ | (with_reducible refine below_chain ?_ (by with_reducible assumption) (by first | omega | (simp <;> omega) | simp)) | (with_reducible refine below_gb ?_ (by with_reducible assumption) (by first | omega | (simp <;> omega) | simp) (by first | omega | (simp <;> omega) | simp)) | (with_reducible refine Below.alloc ?_ (by first | omega | (simp <;> omega) | simp) _) | (with_reducible refine below_drewN ?_ _) | (with_reducible refine below_drew ?_) | (with_reducible refine Below.setCell ?_ (by first | omega | (simp <;> omega) | simp) _)))⟩

theorem ne_list {a b : ByteArray} (h : a ≠ b) : (a.toList == b.toList) = false := by
  rw [ByteArray.toList_eq, ByteArray.toList_eq]
  simp only [beq_eq_false_iff_ne]
  exact fun e => h (Go.WideShapes.bytes_inj e)
/-- whether a slash stands among the first k letters -/
def sl (s : ByteArray) (k : Nat) : Bool := (s.data.toList.take k).any (· == 47)
theorem take_snoc (s : ByteArray) (k : Nat) (h : k < s.size) : s.data.toList.take (k + 1) = s.data.toList.take k ++ [s[k]] := by
  rw [List.take_succ_eq_append_getElem (by simpa using h)]; rfl
theorem sl_step (s : ByteArray) (k : Nat) (h : k < s.size) : sl s (k + 1) = (sl s k || ((s[k].toNat : Int) == 47)) := by
  unfold sl
  rw [take_snoc s k h, List.any_append]
  have : (s[k] == 47) = ((s[k].toNat : Int) == 47) := by
    rw [Bool.eq_iff_iff]
    simp [← UInt8.toNat_inj]
    omega
  simp [this]
theorem sl_all (s : ByteArray) (k : Nat) (h : s.size ≤ k) : sl s k = s.data.toList.any (· == 47) := by
  unfold sl
  rw [List.take_of_length_le (by simp; omega)]

theorem text_len {t l : Int} (h : Quo.qv t l = true) : (text t l).length ≤ 100 := by
  obtain ⟨b1, b2, b3, b4, -⟩ := Quo.qv_true h
  have l1 := itoa_len (n := t) (by omega) (by omega)
  have l2 := itoa_len (n := l) (by omega) (by omega)
  by_cases h1 : l = 1
  · subst h1
    rw [text_one h]
    omega
  · rw [text_more h h1]
    simp
    omega

set_option maxRecDepth 100000 in
set_option maxHeartbeats 20000000 in
theorem walk (len cap : Nat) (p : Option Addr) (w : World) (hl : len ≤ 1048576) (h : Hid (Code' w (.slice p len cap))) (ht : Hid (Tab w)) :
    Calls Tryd.prog 3 #[.slice p len cap] w fun e w' => e = .returned (.bool true) ∧ Below w.heap.size w w' := by
  have hl' : ¬ (1048576 : Int) < (len : Int) := by omega
  go_enter Tryd.func3, Tryd.ntmps3
  go_wp2_with (go_at_call 5; (with_reducible refine (drawText_any _ _ h).mono ?_); rintro e wd ⟨a, b, a1, a2, b1, b2, rfl, hbd⟩; obtain ⟨hcn, hfn⟩ := bcell hbd; have hsd := hbd.size)
  obtain ⟨s, hs⟩ : ∃ s : ByteArray, ⟨(text a b).toArray⟩ = s := ⟨_, rfl⟩
  have k1 := fun w ht => Lib.hid (iText_eq a b s w hs ht)
  have k2 := fun w => Lib.hid (sText_eq a b s w hs)
  by_cases hq : Quo.qv a b = true
  · have hlist : s.data.toList = text a b := by rw [← hs]
    have hne : s.data.toList ≠ [] := by rw [hlist]; exact text_ne hq
    have hslash : s.data.toList.any (· == 47) = decide (1 < b) := by rw [hlist]; exact text_slash hq
    have hsz : s.size ≤ 100 := by
      have := text_len hq
      rw [← hlist] at this
      simpa using this
    go_wp2_with (first | (go_at_call 6; (with_reducible refine ((k1 _ (Lib.hid (tab_keeps ht.out ?_))).out).mono ?_); (focus ((repeat (first | assumption | exact Below.refl _ _ | (refine below_chain ?_ (by assumption) (by first | omega | (simp <;> omega) | simp)) | (refine Below.alloc ?_ (by first | omega | (simp <;> omega) | simp) _) | (apply below_drewN) | (apply below_drew) | (refine Below.setCell ?_ (by first | omega | (simp <;> omega) | simp) _))); done)); rintro e w1 ⟨rfl, hbn⟩; obtain ⟨hcn, hfn⟩ := bcell hbn; (try simp only [World.size_drew, World.cell?_drew, World.frozen?_drew] at hcn hfn); have hsz := hbn.size; (try simp at hsz); (try have hsl := Nat.lt_of_succ_le hsz); (try have hz0 : wd.heap.size < w1.heap.size := (by have := hbn.size; (try simp at this); omega))) | (go_at_call 7; (with_reducible refine ((k2 _).out).mono ?_); rintro e w2 ⟨rfl, hbn⟩; obtain ⟨hcn, hfn⟩ := bcell hbn; (try simp only [World.size_drew, World.cell?_drew, World.frozen?_drew] at hcn hfn); have hsz := hbn.size; (try simp at hsz); (try have hsl := Nat.lt_of_succ_le hsz); (try have hz0 : wd.heap.size < w2.heap.size := (by have := hbn.size; (try simp at this); omega))))
    · go_ret
      exact ⟨rfl, (by repeat (first | with_reducible assumption | with_reducible exact Below.refl _ _ | (with_reducible refine below_chain ?_ (by with_reducible assumption) (by first | omega | (simp <;> omega) | simp)) | (with_reducible refine below_gb ?_ (by with_reducible assumption) (by first | omega | (simp <;> omega) | simp) (by first | omega | (simp <;> omega) | simp)) | (with_reducible refine Below.alloc ?_ (by first | omega | (simp <;> omega) | simp) _) | (with_reducible refine below_drewN ?_ _) | (with_reducible refine below_drew ?_) | (with_reducible refine Below.setCell ?_ (by first | omega | (simp <;> omega) | simp) _)))⟩
    · go_loop [6, 7] (fun v i => ∃ (k : Nat) (f : Bool), k ≤ s.size ∧ i = .int .i64 k ∧ v = .bool f ∧ Hid (sl s k = f)) (fun _ i => s.size - (intOf i).toNat)
      case atStart => exact ⟨0, false, Nat.zero_le _, rfl, rfl, Lib.hid rfl⟩
      case round =>
        obtain ⟨k, f, hk, rfl, rfl, hf⟩ := hrel
        by_cases hlt : k < s.size
        · have hst := Lib.hid (sl_step s k hlt)
          cases f
          · go_wp2
            go_round
            case rel => exact ⟨k + 1, _, by omega, by go_num, rfl, Lib.hid (by rw [hst.out, hf.out]; rfl)⟩
            case measure => simp [intOf]; omega
          · go_wp2
            go_round
            case rel => exact ⟨k + 1, true, by omega, by go_num, rfl, Lib.hid (by rw [hst.out, hf.out]; rfl)⟩
            case measure => simp [intOf]; omega
        · have hf' : decide (1 < b) = f := by rw [← hf.out, sl_all s k (by omega)]; exact hslash.symm
          clear hf
          obtain ⟨x, hx⟩ : ∃ x, Quo.gT (Quo.both a b 1 1) (a * 1 + 1 * b) (b * 1) = x := ⟨_, rfl⟩
          obtain ⟨y, hy⟩ : ∃ y, Quo.gL (Quo.both a b 1 1) (a * 1 + 1 * b) (b * 1) = y := ⟨_, rfl⟩
          obtain ⟨ps, hps⟩ : ∃ y, Quo.gOk (Quo.both a b 1 1) (a * 1 + 1 * b) (b * 1) = y := ⟨_, rfl⟩
          obtain ⟨sx, hsx⟩ : ∃ s : ByteArray, ⟨(text x y).toArray⟩ = s := ⟨_, rfl⟩
          obtain ⟨sn, hsn⟩ : ∃ s : ByteArray, ⟨(text (-a) b).toArray⟩ = s := ⟨_, rfl⟩
          have k3 := fun w => Lib.hid (iAdd_eq a b 1 1 x y ps w ⟨hx, hy, hps⟩)
          have k4 := fun w ht => Lib.hid (iText_eq x y sx w hsx ht)
          have k5 := fun w ht => Lib.hid (iText_eq (-a) b sn w hsn ht)
          have o1 : ps = true → sx ≠ s := fun e e' => plus_one (hps.trans e) x y hx hy (by rw [← hlist, ← e', ← hsx])
          have o2 : a ≠ 0 → sn ≠ s := fun e e' => turned hq e (by rw [← hlist, ← e', ← hsn])
          clear hx hy hps hsx hsn hq hlist hne hslash hs
          go_wp2_with fail
          go_cut [8, 9] (fun s8 s9 wx => ∃ B : Nat, s8 = .pointer (some ⟨B, 0, none⟩) ∧ s9 = .bool ps ∧ wx.cell? ⟨B, 0, none⟩ = some (.int .i64 x) ∧ wx.cell? ⟨B, 1, none⟩ = some (.int .i64 y) ∧ B < wx.heap.size ∧ wx.cell? ⟨wd.heap.size, 0, none⟩ = some (.int .i64 a) ∧ wx.cell? ⟨wd.heap.size, 1, none⟩ = some (.int .i64 b) ∧ wd.heap.size < wx.heap.size ∧ Below w.heap.size w wx)
          case first =>
            go_region_held3 (fun W => W.cell? ⟨wd.heap.size, 0, none⟩ = some (.int .i64 a) ∧ W.cell? ⟨wd.heap.size, 1, none⟩ = some (.int .i64 b)) (((try dsimp only); refine ⟨?_, ?_⟩ <;> (simp [*, go_sem]; done)))
              (first | (go_at_call 9; (with_reducible refine (whole_any _ _).mono ?_); rintro e wn ⟨rfl, hbn⟩; obtain ⟨hcn, hfn⟩ := bcell hbn; (try simp only [World.size_drew, World.cell?_drew, World.frozen?_drew] at hcn hfn); have hsz := hbn.size; (try simp at hsz); (try have hsl := Nat.lt_of_succ_le hsz); (try have hz0 : wd.heap.size < wn.heap.size := (by have := hbn.size; (try simp at this); omega)); (try have hz1 : w2.heap.size < wn.heap.size := (by have := hbn.size; (try simp at this); omega))) | (go_at_call 8; (with_reducible refine ((k3 _).out).mono ?_); rintro e wn ⟨rfl, hbn⟩; obtain ⟨hcn, hfn⟩ := bcell hbn; (try simp only [World.size_drew, World.cell?_drew, World.frozen?_drew] at hcn hfn); have hsz := hbn.size; (try simp at hsz); (try have hsl := Nat.lt_of_succ_le hsz); (try have hz0 : wd.heap.size < wn.heap.size := (by have := hbn.size; (try simp at this); omega)); (try have hz1 : w2.heap.size < wn.heap.size := (by have := hbn.size; (try simp at this); omega))))
            all_goals go_wp2_with fail
            all_goals (go_meet; exact ⟨_, rfl, rfl, by simp [*, go_sem], by simp [*, go_sem], (by first | omega | (simp <;> omega) | simp), by simp [*, go_sem], by simp [*, go_sem], (by first | omega | (simp <;> omega) | simp), (by repeat (first | with_reducible assumption | with_reducible exact Below.refl _ _ | (with_reducible refine below_chain ?_ (by with_reducible assumption) (by first | omega | (simp <;> omega) | simp)) | (with_reducible refine below_gb ?_ (by with_reducible assumption) (by first | omega | (simp <;> omega) | simp) (by first | omega | (simp <;> omega) | simp)) | (with_reducible refine Below.alloc ?_ (by first | omega | (simp <;> omega) | simp) _) | (with_reducible refine below_drewN ?_ _) | (with_reducible refine below_drew ?_) | (with_reducible refine Below.setCell ?_ (by first | omega | (simp <;> omega) | simp) _)))⟩)
          case rest =>
            obtain ⟨B, rfl, rfl, e0, e1, eB, e2, e3, eD, hbw⟩ := hcut
            have hws := hbw.size
            cases ps
            · clear o1
              by_cases ha : a = 0
              · subst ha
                clear o2
                go_wp2_with (first | (go_at_call 6; (with_reducible refine ((k4 _ (Lib.hid (tab_keeps ht.out ?_))).out).mono ?_); (focus ((repeat (first | assumption | exact Below.refl _ _ | (refine below_chain ?_ (by assumption) (by first | omega | (simp <;> omega) | simp)) | (refine Below.alloc ?_ (by first | omega | (simp <;> omega) | simp) _) | (apply below_drewN) | (apply below_drew) | (refine Below.setCell ?_ (by first | omega | (simp <;> omega) | simp) _))); done)); rintro e w4 ⟨rfl, hbn⟩; obtain ⟨hcn, hfn⟩ := bcell hbn; (try simp only [World.size_drew, World.cell?_drew, World.frozen?_drew] at hcn hfn); have hsz := hbn.size; (try simp at hsz); (try have hsl := Nat.lt_of_succ_le hsz); (try have hz0 : wd.heap.size < w4.heap.size := (by have := hbn.size; (try simp at this); omega)); (try have hz1 : B < w4.heap.size := (by have := hbn.size; (try simp at this); omega))) | (go_at_call 6; (with_reducible refine ((k5 _ (Lib.hid (tab_keeps ht.out ?_))).out).mono ?_); (focus ((repeat (first | assumption | exact Below.refl _ _ | (refine below_chain ?_ (by assumption) (by first | omega | (simp <;> omega) | simp)) | (refine Below.alloc ?_ (by first | omega | (simp <;> omega) | simp) _) | (apply below_drewN) | (apply below_drew) | (refine Below.setCell ?_ (by first | omega | (simp <;> omega) | simp) _))); done)); rintro e w5 ⟨rfl, hbn⟩; obtain ⟨hcn, hfn⟩ := bcell hbn; (try simp only [World.size_drew, World.cell?_drew, World.frozen?_drew] at hcn hfn); have hsz := hbn.size; (try simp at hsz); (try have hsl := Nat.lt_of_succ_le hsz); (try have hz0 : wd.heap.size < w5.heap.size := (by have := hbn.size; (try simp at this); omega)); (try have hz1 : B < w5.heap.size := (by have := hbn.size; (try simp at this); omega))))
                all_goals go_ret
                all_goals exact ⟨rfl, (by repeat (first | with_reducible assumption | with_reducible exact Below.refl _ _ | (with_reducible refine below_chain ?_ (by with_reducible assumption) (by first | omega | (simp <;> omega) | simp)) | (with_reducible refine below_gb ?_ (by with_reducible assumption) (by first | omega | (simp <;> omega) | simp) (by first | omega | (simp <;> omega) | simp)) | (with_reducible refine Below.alloc ?_ (by first | omega | (simp <;> omega) | simp) _) | (with_reducible refine below_drewN ?_ _) | (with_reducible refine below_drew ?_) | (with_reducible refine Below.setCell ?_ (by first | omega | (simp <;> omega) | simp) _)))⟩
              · have ha' : (a == 0) = false := by simpa using ha
                have m1 := ne_list (o2 ha)
                clear o2
                go_wp2_with (first | (go_at_call 6; (with_reducible refine ((k4 _ (Lib.hid (tab_keeps ht.out ?_))).out).mono ?_); (focus ((repeat (first | assumption | exact Below.refl _ _ | (refine below_chain ?_ (by assumption) (by first | omega | (simp <;> omega) | simp)) | (refine Below.alloc ?_ (by first | omega | (simp <;> omega) | simp) _) | (apply below_drewN) | (apply below_drew) | (refine Below.setCell ?_ (by first | omega | (simp <;> omega) | simp) _))); done)); rintro e w4 ⟨rfl, hbn⟩; obtain ⟨hcn, hfn⟩ := bcell hbn; (try simp only [World.size_drew, World.cell?_drew, World.frozen?_drew] at hcn hfn); have hsz := hbn.size; (try simp at hsz); (try have hsl := Nat.lt_of_succ_le hsz); (try have hz0 : wd.heap.size < w4.heap.size := (by have := hbn.size; (try simp at this); omega)); (try have hz1 : B < w4.heap.size := (by have := hbn.size; (try simp at this); omega))) | (go_at_call 6; (with_reducible refine ((k5 _ (Lib.hid (tab_keeps ht.out ?_))).out).mono ?_); (focus ((repeat (first | assumption | exact Below.refl _ _ | (refine below_chain ?_ (by assumption) (by first | omega | (simp <;> omega) | simp)) | (refine Below.alloc ?_ (by first | omega | (simp <;> omega) | simp) _) | (apply below_drewN) | (apply below_drew) | (refine Below.setCell ?_ (by first | omega | (simp <;> omega) | simp) _))); done)); rintro e w5 ⟨rfl, hbn⟩; obtain ⟨hcn, hfn⟩ := bcell hbn; (try simp only [World.size_drew, World.cell?_drew, World.frozen?_drew] at hcn hfn); have hsz := hbn.size; (try simp at hsz); (try have hsl := Nat.lt_of_succ_le hsz); (try have hz0 : wd.heap.size < w5.heap.size := (by have := hbn.size; (try simp at this); omega)); (try have hz1 : B < w5.heap.size := (by have := hbn.size; (try simp at this); omega))))
                all_goals go_ret
                all_goals exact ⟨rfl, (by repeat (first | with_reducible assumption | with_reducible exact Below.refl _ _ | (with_reducible refine below_chain ?_ (by with_reducible assumption) (by first | omega | (simp <;> omega) | simp)) | (with_reducible refine below_gb ?_ (by with_reducible assumption) (by first | omega | (simp <;> omega) | simp) (by first | omega | (simp <;> omega) | simp)) | (with_reducible refine Below.alloc ?_ (by first | omega | (simp <;> omega) | simp) _) | (with_reducible refine below_drewN ?_ _) | (with_reducible refine below_drew ?_) | (with_reducible refine Below.setCell ?_ (by first | omega | (simp <;> omega) | simp) _)))⟩
            · have m3 := ne_list (o1 rfl)
              clear o1
              by_cases ha : a = 0
              · subst ha
                clear o2
                go_wp2_with (first | (go_at_call 6; (with_reducible refine ((k4 _ (Lib.hid (tab_keeps ht.out ?_))).out).mono ?_); (focus ((repeat (first | assumption | exact Below.refl _ _ | (refine below_chain ?_ (by assumption) (by first | omega | (simp <;> omega) | simp)) | (refine Below.alloc ?_ (by first | omega | (simp <;> omega) | simp) _) | (apply below_drewN) | (apply below_drew) | (refine Below.setCell ?_ (by first | omega | (simp <;> omega) | simp) _))); done)); rintro e w4 ⟨rfl, hbn⟩; obtain ⟨hcn, hfn⟩ := bcell hbn; (try simp only [World.size_drew, World.cell?_drew, World.frozen?_drew] at hcn hfn); have hsz := hbn.size; (try simp at hsz); (try have hsl := Nat.lt_of_succ_le hsz); (try have hz0 : wd.heap.size < w4.heap.size := (by have := hbn.size; (try simp at this); omega)); (try have hz1 : B < w4.heap.size := (by have := hbn.size; (try simp at this); omega))) | (go_at_call 6; (with_reducible refine ((k5 _ (Lib.hid (tab_keeps ht.out ?_))).out).mono ?_); (focus ((repeat (first | assumption | exact Below.refl _ _ | (refine below_chain ?_ (by assumption) (by first | omega | (simp <;> omega) | simp)) | (refine Below.alloc ?_ (by first | omega | (simp <;> omega) | simp) _) | (apply below_drewN) | (apply below_drew) | (refine Below.setCell ?_ (by first | omega | (simp <;> omega) | simp) _))); done)); rintro e w5 ⟨rfl, hbn⟩; obtain ⟨hcn, hfn⟩ := bcell hbn; (try simp only [World.size_drew, World.cell?_drew, World.frozen?_drew] at hcn hfn); have hsz := hbn.size; (try simp at hsz); (try have hsl := Nat.lt_of_succ_le hsz); (try have hz0 : wd.heap.size < w5.heap.size := (by have := hbn.size; (try simp at this); omega)); (try have hz1 : B < w5.heap.size := (by have := hbn.size; (try simp at this); omega))))
                all_goals go_ret
                all_goals exact ⟨rfl, (by repeat (first | with_reducible assumption | with_reducible exact Below.refl _ _ | (with_reducible refine below_chain ?_ (by with_reducible assumption) (by first | omega | (simp <;> omega) | simp)) | (with_reducible refine below_gb ?_ (by with_reducible assumption) (by first | omega | (simp <;> omega) | simp) (by first | omega | (simp <;> omega) | simp)) | (with_reducible refine Below.alloc ?_ (by first | omega | (simp <;> omega) | simp) _) | (with_reducible refine below_drewN ?_ _) | (with_reducible refine below_drew ?_) | (with_reducible refine Below.setCell ?_ (by first | omega | (simp <;> omega) | simp) _)))⟩
              · have ha' : (a == 0) = false := by simpa using ha
                have m1 := ne_list (o2 ha)
                clear o2
                go_wp2_with (first | (go_at_call 6; (with_reducible refine ((k4 _ (Lib.hid (tab_keeps ht.out ?_))).out).mono ?_); (focus ((repeat (first | assumption | exact Below.refl _ _ | (refine below_chain ?_ (by assumption) (by first | omega | (simp <;> omega) | simp)) | (refine Below.alloc ?_ (by first | omega | (simp <;> omega) | simp) _) | (apply below_drewN) | (apply below_drew) | (refine Below.setCell ?_ (by first | omega | (simp <;> omega) | simp) _))); done)); rintro e w4 ⟨rfl, hbn⟩; obtain ⟨hcn, hfn⟩ := bcell hbn; (try simp only [World.size_drew, World.cell?_drew, World.frozen?_drew] at hcn hfn); have hsz := hbn.size; (try simp at hsz); (try have hsl := Nat.lt_of_succ_le hsz); (try have hz0 : wd.heap.size < w4.heap.size := (by have := hbn.size; (try simp at this); omega)); (try have hz1 : B < w4.heap.size := (by have := hbn.size; (try simp at this); omega))) | (go_at_call 6; (with_reducible refine ((k5 _ (Lib.hid (tab_keeps ht.out ?_))).out).mono ?_); (focus ((repeat (first | assumption | exact Below.refl _ _ | (refine below_chain ?_ (by assumption) (by first | omega | (simp <;> omega) | simp)) | (refine Below.alloc ?_ (by first | omega | (simp <;> omega) | simp) _) | (apply below_drewN) | (apply below_drew) | (refine Below.setCell ?_ (by first | omega | (simp <;> omega) | simp) _))); done)); rintro e w5 ⟨rfl, hbn⟩; obtain ⟨hcn, hfn⟩ := bcell hbn; (try simp only [World.size_drew, World.cell?_drew, World.frozen?_drew] at hcn hfn); have hsz := hbn.size; (try simp at hsz); (try have hsl := Nat.lt_of_succ_le hsz); (try have hz0 : wd.heap.size < w5.heap.size := (by have := hbn.size; (try simp at this); omega)); (try have hz1 : B < w5.heap.size := (by have := hbn.size; (try simp at this); omega))))
                all_goals go_ret
                all_goals exact ⟨rfl, (by repeat (first | with_reducible assumption | with_reducible exact Below.refl _ _ | (with_reducible refine below_chain ?_ (by with_reducible assumption) (by first | omega | (simp <;> omega) | simp)) | (with_reducible refine below_gb ?_ (by with_reducible assumption) (by first | omega | (simp <;> omega) | simp) (by first | omega | (simp <;> omega) | simp)) | (with_reducible refine Below.alloc ?_ (by first | omega | (simp <;> omega) | simp) _) | (with_reducible refine below_drewN ?_ _) | (with_reducible refine below_drew ?_) | (with_reducible refine Below.setCell ?_ (by first | omega | (simp <;> omega) | simp) _)))⟩
  · have hq' : Quo.qv a b = false := by simpa using hq
    rw [text_no hq'] at hs
    subst hs
    clear hq hq'
    go_wp2_with (first | (go_at_call 6; (with_reducible refine ((k1 _ (Lib.hid (tab_keeps ht.out ?_))).out).mono ?_); (focus ((repeat (first | assumption | exact Below.refl _ _ | (refine below_chain ?_ (by assumption) (by first | omega | (simp <;> omega) | simp)) | (refine Below.alloc ?_ (by first | omega | (simp <;> omega) | simp) _) | (apply below_drewN) | (apply below_drew) | (refine Below.setCell ?_ (by first | omega | (simp <;> omega) | simp) _))); done)); rintro e w1 ⟨rfl, hbn⟩; obtain ⟨hcn, hfn⟩ := bcell hbn; (try simp only [World.size_drew, World.cell?_drew, World.frozen?_drew] at hcn hfn); have hsz := hbn.size; (try simp at hsz); (try have hsl := Nat.lt_of_succ_le hsz); (try have hz0 : wd.heap.size < w1.heap.size := (by have := hbn.size; (try simp at this); omega))) | (go_at_call 7; (with_reducible refine ((k2 _).out).mono ?_); rintro e w2 ⟨rfl, hbn⟩; obtain ⟨hcn, hfn⟩ := bcell hbn; (try simp only [World.size_drew, World.cell?_drew, World.frozen?_drew] at hcn hfn); have hsz := hbn.size; (try simp at hsz); (try have hsl := Nat.lt_of_succ_le hsz); (try have hz0 : wd.heap.size < w2.heap.size := (by have := hbn.size; (try simp at this); omega))))
    go_ret
    exact ⟨rfl, (by repeat (first | with_reducible assumption | with_reducible exact Below.refl _ _ | (with_reducible refine below_chain ?_ (by with_reducible assumption) (by first | omega | (simp <;> omega) | simp)) | (with_reducible refine below_gb ?_ (by with_reducible assumption) (by first | omega | (simp <;> omega) | simp) (by first | omega | (simp <;> omega) | simp)) | (with_reducible refine Below.alloc ?_ (by first | omega | (simp <;> omega) | simp) _) | (with_reducible refine below_drewN ?_ _) | (with_reducible refine below_drew ?_) | (with_reducible refine Below.setCell ?_ (by first | omega | (simp <;> omega) | simp) _)))⟩

theorem walk_long (len cap : Nat) (p : Option Addr) (w : World) (hl : 1048576 < len) :
    Calls Tryd.prog 3 #[.slice p len cap] w fun e w' => e = .returned (.bool true) ∧ Below w.heap.size w w' := by
  have hl' : (1048576 : Int) < (len : Int) := by omega
  go_enter Tryd.func3, Tryd.ntmps3
  go_wp2
  go_ret
  exact ⟨rfl, Below.refl _ _⟩

theorem gPowType : (Tryd.prog.globals[0]?).map (·.type) = some 66 := by kernel_rfl
theorem cellsPow : Tryd.prog.cellsOf 66 = 20 := by kernel_rfl
theorem cellsU64 : Tryd.prog.cellsOf 60 = 1 := by kernel_rfl
theorem table {W : World} (h : laidMetH Tryd.prog Rows.fnQuoTextRow.laid W) : Tab W := by
  have h' : laidMet Tryd.prog Rows.fnQuoTextRow.laid W := (MakeChecks.laidMetH_plain Tryd.prog Rows.fnQuoTextRow.laid W (by kernel_rfl)) ▸ h
  exact Lib.tabIs_of_head (rest := []) gTab gPowType Tryd.underlying66 Tryd.underlying60 cellsU64 cellsPow h'.tail.tail

theorem contract (H : Type) (enc : TypeId × Value → H) (W : World) (base : Nat) (args : Array Value) (ds gs : List (DataW H)) (before : List MemPlace)
    (hval : ∀ (j : Nat) t v, Tryd.f3.params[j]? = some t → args[j]? = some v → Value.okWide Tryd.prog W .any base t v)
    (hW : DataW.Whole enc Tryd.prog Tryd.f3.params.toList Rows.fnQuoTextSpec.vars false W args.toList ds gs before) (hL : laidMetH Tryd.prog Rows.fnQuoTextRow.laid W) :
    Calls Tryd.prog 3 args W fun e W' => ∃ v, e = .returned v ∧ Rows.fnQuoTextSpec.post enc Tryd.prog Tryd.f3 false true false false W args v W' := by
  have hW' := hW
  obtain ⟨p, q, hA0, hV, rfl, hfz, hnd⟩ := hW
  have hA : DataW.TrodAll enc Tryd.prog W 0 (fun _ => true) true Tryd.f3.params.toList args.toList ds p := hA0
  rw [Tryd.params3] at hA hval
  obtain ⟨v0, vs0, d0, ds0, p0, q0, hargs, rfl, rfl, h0, r0⟩ := trodAll_cons hA
  obtain ⟨rfl, rfl, rfl⟩ := trodAll_nil r0
  obtain rfl : args = #[v0] := by cases args; simp_all
  obtain ⟨rfl, rfl⟩ := trodVars_none hV
  obtain ⟨a0, len0, cap0, rfl⟩ := okWide_slice Tryd.underlying22 (hval 0 22 v0 rfl rfl)
  have k0 := h0
  have lt0 : ∀ x ∈ p0, x.block < W.heap.size := by obtain ⟨m, hm⟩ := k0; exact DataW.trod_lt m _ _ _ hm
  obtain ⟨z0, w0⟩ : ∃ zs, IsRow .u8 W a0 len0 cap0 zs := by
    obtain ⟨fuel, hf⟩ := h0
    rcases open_ints Tryd.underlying22 Tryd.underlying5 (by kernel_rfl) hf with ⟨hcs, _⟩ | ⟨x, l, c, zs, hcs, _, hl, hm, hz, _, hcell, hwz⟩
    · simp [Value.cells] at hcs
      obtain ⟨rfl, rfl, rfl⟩ := hcs
      exact ⟨[], .inl ⟨rfl, rfl, rfl, rfl⟩⟩
    · simp [Value.cells] at hcs
      obtain ⟨rfl, rfl, rfl⟩ := hcs
      exact ⟨zs, .inr ⟨_, rfl, hl, hm, by simpa using hz, hcell, hwz⟩⟩
  clear hA0
  have hw : Calls Tryd.prog 3 #[.slice a0 len0 cap0] W fun e w' => e = .returned (.bool true) ∧ Below W.heap.size W w' := by
    by_cases hl : len0 ≤ 1048576
    · exact walk len0 cap0 a0 W hl (Lib.hid (code_of_row w0 hl)) (Lib.hid (table hL))
    · exact walk_long len0 cap0 a0 W (by omega)
  refine hw.mono fun e W' ⟨he, bel⟩ => ?_
  subst he
  exact ⟨_, rfl, _, _, _, [], _, [], hW', trodAll_mk1 (shut_bool Tryd.underlying4 _), (trodAll_cons_mk (Below.trod laidOut (by kernel_rfl) (of_decide_eq_true (by kernel_rfl)) k0 bel lt0) trodAll_mk0), rfl, bel.frame _, fun h => by cases h⟩

theorem laid_met (os : Os) : laidMet Tryd.prog Rows.fnQuoTextRow.laid ((World.doorLaid Tryd.prog 400 os).forCall (fun _ _ => 0) ⟨#[], #[.slice none 0 0], []⟩).memory :=
  laidMet_of_run' 8 (by kernel_rfl) (by kernel_rfl)
theorem reads (os : Os) {H : Type} (enc : TypeId × Value → H) : ∃ places, DataW.whole enc Tryd.prog ((World.doorLaid Tryd.prog 400 os).forCall (fun _ _ => 0) ⟨#[], #[.slice none 0 0], []⟩).memory Tryd.f3.params.toList Rows.fnQuoTextSpec.vars false #[Value.slice none 0 0].toList 8 = some ([.nil], [], places) :=
  ⟨[], by kernel_rfl⟩

set_option maxRecDepth 100000 in
theorem lifted (os : Os) (started : os.Started) (H : Type) (enc : TypeId × Value → H) (F : Stop.Interp) :
    ReturnsInHanded {} Tryd.checked os 3 .any ((OpenSpec.ofChange Rows.fnQuoTextSpec).preRow enc Tryd.prog Tryd.f3 Rows.fnQuoTextRow.domain false Rows.fnQuoTextRow.laid) (((OpenSpec.ofChange Rows.fnQuoTextSpec).at F).post enc Tryd.prog Tryd.f3 false true false false) := by
  obtain ⟨places, hx⟩ := reads os enc
  refine returnsInHanded_of_row (C := Tryd.checked) (s := OpenSpec.ofChange Rows.fnQuoTextSpec) own started (by kernel_rfl) Tryd.func3
    (witness_row_at (enc := enc) (C := Tryd.checked) false (World.doorLaid Tryd.prog 400 os) #[.slice none 0 0] rfl (by kernel_rfl) (by kernel_rfl) (by kernel_rfl)
      (OpenSpec.preRow_of_cond 8 hx (by kernel_rfl) (fun k hk => by cases hk) (by kernel_rfl) (laid_met os))) ?_
  intro W base args ds gs before hval hW _ _ _ hL _ _
  exact contract H enc W base args ds gs before hval hW hL

theorem said : Rows.FnQuoTextSaid :=
  OpenClaim.holds_of_cond 3 Tryd.f3 rfl rfl rfl rfl rfl rfl rfl ⟨rfl, rfl, rfl, rfl, rfl⟩ rfl rfl rfl rfl rfl (by kernel_rfl) Tryd.func3 (by kernel_rfl)
    (of_decide_eq_true (by kernel_rfl)) (by unfold Func.isWrapper; first | (rw [if_pos (by decide +kernel)]; kernel_rfl) | (rw [if_neg (by decide +kernel)]; exact ⟨rfl, rfl⟩))
    (fun os started H enc _ F => by rw [OpenClaim.pre_eq_preRow]; exact lifted os started H enc F)

theorem plain (f : FuncId) (fn : Func) (hf : Tryd.pinned.checked.prog.funcNamed "loop.example/levellingnet/laws.FnQuoText" = some f) (hfn : Tryd.pinned.checked.prog.funcs[f]? = some fn) :
    true = Tryd.pinned.checked.prog.looks [] ∧ ∀ (j : Nat) t, fn.params[j]? = some t → Tryd.pinned.checked.prog.wantsStandIn t = false := by
  obtain rfl : f = 3 := Option.some.inj ((show Tryd.prog.funcNamed "loop.example/levellingnet/laws.FnQuoText" = some 3 by kernel_rfl).symm.trans hf) |>.symm
  obtain rfl : fn = Tryd.f3 := (Option.some.inj (Tryd.func3.symm.trans hfn)).symm
  refine ⟨by kernel_rfl, fun j t ht => ?_⟩
  rw [Tryd.params3] at ht
  obtain rfl : t = 22 := by simpa using Array.mem_of_getElem? ht
  exact (show Tryd.prog.wantsStandIn 22 = false by kernel_rfl)

theorem card : Rows.FnQuoTextCardSaid :=
  Claim7.holds_tied_plain_at .later [] _ _ _ _ said (fun _ h => by cases h) (by kernel_rfl) (fun _ h => by cases h) fnQuoText_row_tie rfl ⟨rfl, rfl⟩ (by kernel_rfl) rfl plain (by kernel_rfl)
end Go.Proofs.YtlbhfgckdbmldaaDoor.fnQuoText

