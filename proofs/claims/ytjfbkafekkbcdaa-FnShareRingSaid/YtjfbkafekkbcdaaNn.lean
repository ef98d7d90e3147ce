/-
  The map of neighbors that a net's runs give.
-/
import Derived.Test.YtjfbkafekkbcdaaNl
import Derived.Test.YtjfbkafekkbcdaaNf
import Derived.Test.YtjfbkafekkbcdaaMapV
import Derived.Test.YtjfbkafekkbcdaaReg
import Derived.Deep.DeepCutAuto
namespace Go.Proofs.Ytjfbkafekkbcdaa
open Go.RowKit
set_option linter.unusedVariables false

theorem kp {L : Array Bool} {i j : Nat} (h : (L.setIfInBounds i true).getD j true = true) (hne : i ≠ j) : L.getD j true = true := by rwa [getD_set_ne true hne] at h
theorem kpf {L : Array Bool} {i j : Nat} (h : (L.setIfInBounds i true).getD j true = false) (hne : i ≠ j) : L.getD j true = false := by rwa [getD_set_ne true hne] at h
theorem tf {L : Array Bool} {i : Nat} (h : L.getD i false = true) : L.getD i true = true := by
  by_cases hi : i < L.size
  · simp [hi] at h ⊢; exact h
  · simp [hi] at h
theorem keyInt : Maps.Keyed Try.prog 3 := Maps.int_keyed Try.underlying3
theorem zeroInts (w : World) : (zeroValue 23).run Try.prog w = .ok (.slice none 0 0) w := by kernel_rfl
theorem zeroBool (w : World) : (zeroValue 4).run Try.prog w = .ok (.bool false) w := by kernel_rfl
theorem wf_node {x : Int} (h0 : 0 ≤ x) (h1 : x < 100) : (Lit.int .i64 x).wf = true := WalkArith.wf_i64 (by omega)

/-- what stands between two runs -/
structure Near (w0 w : World) (k : Nat) (B c : Nat) (f : Int → Value) (q : Int → List Int) : Prop where
  map : MapV Try.prog 3 w B k (.slice none 0 0) f
  nbs : Nbs 3 w B c f q
  below : Below w0.heap.size w0 w

set_option maxHeartbeats 4000000 in
theorem neighbors_is (n : Int) (p : Option Addr) (c : Nat) (rs : List Rn) (w : World) (h : Runs w p rs) (hn : nOk n rs = true) :
    Calls Try.prog 78 #[.slice p rs.length c] w fun e w' => ∃ f, e = .returned (.map (some w.heap.size)) ∧ Near w w' (2 * rs.length) w.heap.size w.heap.size f (nb rs) := by
  have H := Lib.hid h
  obtain ⟨hn2, hn6, hl12, hall⟩ := nOk_true hn
  have HA := Lib.hid hall
  have HM := Lib.hid (MapV.made w Try.prog 3 (.slice none 0 0))
  clear h hall hn
  have hmm := @run_makeMap Try.prog
  go_enter Try.func78, Try.ntmps78
  go_wp2_with fail
  clear hmm
  go_loopw [9] (fun i wr => ∃ (k : Nat) (f : Int → Value), k ≤ rs.length ∧ i = .int .i64 k ∧ Near w wr (2 * k) w.heap.size w.heap.size f (nb (rs.take k))) (fun i _ => rs.length - (intOf i).toNat)
  case atStart => exact ⟨0, fun _ => .slice none 0 0, Nat.zero_le _, rfl, HM.out, Nbs.start _ _ _ _, (by repeat (first | assumption | exact Below.refl _ _ | (refine below_chain ?_ (by assumption) (by first | omega | (simp <;> omega) | simp)) | (refine Below.alloc ?_ (by first | omega | (simp <;> omega) | simp) _) | (apply below_drewN) | (apply below_drew) | (refine Below.setCell ?_ (by first | omega | (simp <;> omega) | simp) _)))⟩
  case round =>
    clear HM
    obtain ⟨k, f, hk, rfl, hne⟩ := hrel
    have HN := Lib.hid hne
    have hbr := hne.below
    have hbs := hbr.size
    have hBl := hne.map.lt
    clear hne
    by_cases hlt : k < rs.length
    · obtain ⟨D, o, r, rfl, hr, hD, e0, e1, e2, e3⟩ := (H.out.below hbr).at hlt
      have HR := Lib.hid hr
      clear hr
      go_upto_region 5 with fail
      obtain ⟨q0, q1, q2, q3, q4⟩ : 0 ≤ r.f ∧ r.f < n ∧ 0 ≤ r.t ∧ r.t < n ∧ r.f ≠ r.t := by
        obtain ⟨a1, a2, a3, a4, a5, _⟩ := rOk_true (HA.out _ _ HR.out)
        exact ⟨a1, a2, a3, a4, a5⟩
      have hwf := wf_node q0 (by omega : r.f < 100)
      have hwt := wf_node q2 (by omega : r.t < 100)
      have ql := nb_len (rs.take k)
      have hkl : (rs.take k).length ≤ 12 := by simp; omega
      have W5 : Hid (Below w.heap.size w (wr.alloc (.cells #[.int .i64 r.f, .int .i64 r.t, .int .i64 r.s, .int .i64 r.g] 41)) ∧ (wr.alloc (.cells #[.int .i64 r.f, .int .i64 r.t, .int .i64 r.s, .int .i64 r.g] 41)).cell? ⟨wr.heap.size, 0, none⟩ = some (.int .i64 r.f) ∧ (wr.alloc (.cells #[.int .i64 r.f, .int .i64 r.t, .int .i64 r.s, .int .i64 r.g] 41)).cell? ⟨wr.heap.size, 1, none⟩ = some (.int .i64 r.t) ∧ wr.heap.size < (wr.alloc (.cells #[.int .i64 r.f, .int .i64 r.t, .int .i64 r.s, .int .i64 r.g] 41)).heap.size ∧
          Nbs 3 (wr.alloc (.cells #[.int .i64 r.f, .int .i64 r.t, .int .i64 r.s, .int .i64 r.g] 41)) w.heap.size wr.heap.size f (nb (rs.take k)) ∧ MapV Try.prog 3 (wr.alloc (.cells #[.int .i64 r.f, .int .i64 r.t, .int .i64 r.s, .int .i64 r.g] 41)) w.heap.size (2 * k) (.slice none 0 0) f) :=
        Lib.hid ⟨hbr.alloc hbs _, by simp, by simp, by simp, (HN.out.nbs.fresh (Nat.le_refl _)).alloc _, HN.out.map.alloc _⟩
      obtain ⟨b5, hbb⟩ : ∃ b5, b5 = wr.heap.size := ⟨_, rfl⟩
      have hBb : w.heap.size < b5 := by omega
      rw [← hbb] at W5 ⊢
      clear hbb
      generalize wr.alloc (.cells #[.int .i64 r.f, .int .i64 r.t, .int .i64 r.s, .int .i64 r.g] 41) = w5 at W5 ⊢
      clear e0 e1 e2 e3 hbr hbs hBl HN hD
      have qlf := ql r.f
      have qlt := ql r.t
      refine wp_region_inv (by kernel_rfl) (by kernel_rfl) (fun L fr wx => ∃ (u0 u1 u2 u3 u4 u5 u6 u7 u8 u9 u10 : Value), fr = ⟨#[Value.slice (some { block := D, off := o }) rs.length c, undef, Value.map none, Value.map (some w.heap.size), undef, Value.pointer (some { block := b5, off := 0 }), Value.map (some w.heap.size), Value.slice (some { block := D, off := o }) rs.length c, Value.int IntKind.i64 ↑rs.length, Value.int IntKind.i64 ↑k, Value.bool true, Value.pointer (some { block := D, off := o + k * 4 }), Value.agg #[Value.int IntKind.i64 r.f, Value.int IntKind.i64 r.t, Value.int IntKind.i64 r.s, Value.int IntKind.i64 r.g], u0, u1, u2, u3, u4, u5, u6, u7, u8, u9, u10, u24, u25, u26, u27, u28, u29, u30, u31, u32, u33, u34, u35, undef], []⟩ ∧ (Below w.heap.size w wx ∧ wx.cell? ⟨b5, 0, none⟩ = some (.int .i64 r.f) ∧ wx.cell? ⟨b5, 1, none⟩ = some (.int .i64 r.t) ∧ b5 < wx.heap.size) ∧ (L.getD 0 true = true → u0 = .map (some w.heap.size)) ∧ (L.getD 1 true = true → u1 = .pointer (some ⟨b5, 0, none⟩)) ∧ (L.getD 2 true = true → u2 = .int .i64 r.f) ∧ (L.getD 3 true = true → u3 = .map (some w.heap.size)) ∧ (L.getD 4 true = true → u4 = .pointer (some ⟨b5, 0, none⟩)) ∧ (L.getD 5 true = true → u5 = .int .i64 r.f) ∧ (L.getD 6 true = true → u6 = f r.f) ∧ (L.getD 7 true = true → u7 = .pointer (some ⟨b5, 1, none⟩)) ∧ (L.getD 8 true = true → u8 = .int .i64 r.t) ∧ (L.getD 9 true = true → ∃ b, u9 = .slice (some ⟨b, 0, none⟩) 1 1 ∧ (L.getD 10 true = false → wx.cell? ⟨b, 0, none⟩ = some (.int .i64 r.t))) ∧ (L.getD 10 true = false → Nbs 3 wx w.heap.size b5 f (nb (rs.take k))) ∧ (L.getD 10 true = true → Nbs 3 wx w.heap.size b5 (upd f r.f u10) (upd (nb (rs.take k)) r.f ((nb (rs.take k)) r.f ++ [r.t]))) ∧ (L.getD 11 true = false → MapV Try.prog 3 wx w.heap.size (2 * k) (.slice none 0 0) f) ∧ (L.getD 11 true = true → (∀ j, j < 11 → L.getD j true = true) ∧ MapV Try.prog 3 wx w.heap.size (2 * k + 1) (.slice none 0 0) (upd f r.f u10))) ?_ ?_ ?_
      · refine ⟨_, _, _, _, _, _, _, _, _, _, _, rfl, ⟨below_drew W5.out.1, W5.out.2.1, W5.out.2.2.1, W5.out.2.2.2.1⟩, ?_⟩
        refine ⟨?_, ?_, ?_, ?_, ?_, ?_, ?_, ?_, ?_, ?_, fun _ => (W5.out.2.2.2.2.1).drew, fun h => absurd h (by decide), fun _ => W5.out.2.2.2.2.2, fun h => absurd h (by decide)⟩ <;> (intro h; exact absurd h (by decide))
      · intro L a' wx i o hI ho hun hdep
        obtain ⟨u0, u1, u2, u3, u4, u5, u6, u7, u8, u9, u10, rfl, ⟨hB, c0, c1, hb5⟩, h0, h1, h2, h3, h4, h5, h6, h7, h8, h9, n0, n1, m0, m1⟩ := hI
        have hi : i < 12 := (Array.getElem?_eq_some_iff.1 ho).1
        have hi' : i = 0 ∨ i = 1 ∨ i = 2 ∨ i = 3 ∨ i = 4 ∨ i = 5 ∨ i = 6 ∨ i = 7 ∨ i = 8 ∨ i = 9 ∨ i = 10 ∨ i = 11 := by omega
        clear hi
        rcases hi' with rfl | rfl | rfl | rfl | rfl | rfl | rfl | rfl | rfl | rfl | rfl | rfl
        · obtain rfl := Option.some.inj ho
          refine wpOp_step rfl (fun K hK => ?_)
          go_simp
          refine hK _ _ ?_
          refine ⟨_, u1, u2, u3, u4, u5, u6, u7, u8, u9, u10, rfl, ⟨hB, c0, c1, hb5⟩, (fun _ => rfl), (fun h => h1 (kp h (by decide : (0 : Nat) ≠ 1))), (fun h => h2 (kp h (by decide : (0 : Nat) ≠ 2))), (fun h => h3 (kp h (by decide : (0 : Nat) ≠ 3))), (fun h => h4 (kp h (by decide : (0 : Nat) ≠ 4))), (fun h => h5 (kp h (by decide : (0 : Nat) ≠ 5))), (fun h => h6 (kp h (by decide : (0 : Nat) ≠ 6))), (fun h => h7 (kp h (by decide : (0 : Nat) ≠ 7))), (fun h => h8 (kp h (by decide : (0 : Nat) ≠ 8))), (fun h => let ⟨b, e, hb⟩ := h9 (kp h (by decide : (0 : Nat) ≠ 9)); ⟨b, e, fun h' => hb (kpf h' (by decide : (0 : Nat) ≠ 10))⟩), (fun h => n0 (kpf h (by decide : (0 : Nat) ≠ 10))), (fun h => n1 (kp h (by decide : (0 : Nat) ≠ 10))), (fun h => m0 (kpf h (by decide : (0 : Nat) ≠ 11))), (fun h => absurd ((m1 (kp h (by decide : (0 : Nat) ≠ 11))).1 0 (by decide)) (by rw [hun]; decide))⟩
        · obtain rfl := Option.some.inj ho
          refine wpOp_step rfl (fun K hK => ?_)
          go_simp
          refine hK _ _ ?_
          refine ⟨u0, _, u2, u3, u4, u5, u6, u7, u8, u9, u10, rfl, ⟨hB, c0, c1, hb5⟩, (fun h => h0 (kp h (by decide : (1 : Nat) ≠ 0))), (fun _ => rfl), (fun h => h2 (kp h (by decide : (1 : Nat) ≠ 2))), (fun h => h3 (kp h (by decide : (1 : Nat) ≠ 3))), (fun h => h4 (kp h (by decide : (1 : Nat) ≠ 4))), (fun h => h5 (kp h (by decide : (1 : Nat) ≠ 5))), (fun h => h6 (kp h (by decide : (1 : Nat) ≠ 6))), (fun h => h7 (kp h (by decide : (1 : Nat) ≠ 7))), (fun h => h8 (kp h (by decide : (1 : Nat) ≠ 8))), (fun h => let ⟨b, e, hb⟩ := h9 (kp h (by decide : (1 : Nat) ≠ 9)); ⟨b, e, fun h' => hb (kpf h' (by decide : (1 : Nat) ≠ 10))⟩), (fun h => n0 (kpf h (by decide : (1 : Nat) ≠ 10))), (fun h => n1 (kp h (by decide : (1 : Nat) ≠ 10))), (fun h => m0 (kpf h (by decide : (1 : Nat) ≠ 11))), (fun h => absurd ((m1 (kp h (by decide : (1 : Nat) ≠ 11))).1 1 (by decide)) (by rw [hun]; decide))⟩
        · obtain rfl := Option.some.inj ho
          have D1 := tf (hdep ⟨1, .data⟩ (by simp) rfl)
          obtain rfl := h1 D1
          refine wpOp_step rfl (fun K hK => ?_)
          go_simp
          refine hK _ _ ?_
          refine ⟨u0, _, _, u3, u4, u5, u6, u7, u8, u9, u10, rfl, ⟨hB, c0, c1, hb5⟩, (fun h => h0 (kp h (by decide : (2 : Nat) ≠ 0))), (fun _ => rfl), (fun _ => rfl), (fun h => h3 (kp h (by decide : (2 : Nat) ≠ 3))), (fun h => h4 (kp h (by decide : (2 : Nat) ≠ 4))), (fun h => h5 (kp h (by decide : (2 : Nat) ≠ 5))), (fun h => h6 (kp h (by decide : (2 : Nat) ≠ 6))), (fun h => h7 (kp h (by decide : (2 : Nat) ≠ 7))), (fun h => h8 (kp h (by decide : (2 : Nat) ≠ 8))), (fun h => let ⟨b, e, hb⟩ := h9 (kp h (by decide : (2 : Nat) ≠ 9)); ⟨b, e, fun h' => hb (kpf h' (by decide : (2 : Nat) ≠ 10))⟩), (fun h => n0 (kpf h (by decide : (2 : Nat) ≠ 10))), (fun h => n1 (kp h (by decide : (2 : Nat) ≠ 10))), (fun h => m0 (kpf h (by decide : (2 : Nat) ≠ 11))), (fun h => absurd ((m1 (kp h (by decide : (2 : Nat) ≠ 11))).1 2 (by decide)) (by rw [hun]; decide))⟩
        · obtain rfl := Option.some.inj ho
          refine wpOp_step rfl (fun K hK => ?_)
          go_simp
          refine hK _ _ ?_
          refine ⟨u0, u1, u2, _, u4, u5, u6, u7, u8, u9, u10, rfl, ⟨hB, c0, c1, hb5⟩, (fun h => h0 (kp h (by decide : (3 : Nat) ≠ 0))), (fun h => h1 (kp h (by decide : (3 : Nat) ≠ 1))), (fun h => h2 (kp h (by decide : (3 : Nat) ≠ 2))), (fun _ => rfl), (fun h => h4 (kp h (by decide : (3 : Nat) ≠ 4))), (fun h => h5 (kp h (by decide : (3 : Nat) ≠ 5))), (fun h => h6 (kp h (by decide : (3 : Nat) ≠ 6))), (fun h => h7 (kp h (by decide : (3 : Nat) ≠ 7))), (fun h => h8 (kp h (by decide : (3 : Nat) ≠ 8))), (fun h => let ⟨b, e, hb⟩ := h9 (kp h (by decide : (3 : Nat) ≠ 9)); ⟨b, e, fun h' => hb (kpf h' (by decide : (3 : Nat) ≠ 10))⟩), (fun h => n0 (kpf h (by decide : (3 : Nat) ≠ 10))), (fun h => n1 (kp h (by decide : (3 : Nat) ≠ 10))), (fun h => m0 (kpf h (by decide : (3 : Nat) ≠ 11))), (fun h => absurd ((m1 (kp h (by decide : (3 : Nat) ≠ 11))).1 3 (by decide)) (by rw [hun]; decide))⟩
        · obtain rfl := Option.some.inj ho
          refine wpOp_step rfl (fun K hK => ?_)
          go_simp
          refine hK _ _ ?_
          refine ⟨u0, u1, u2, u3, _, u5, u6, u7, u8, u9, u10, rfl, ⟨hB, c0, c1, hb5⟩, (fun h => h0 (kp h (by decide : (4 : Nat) ≠ 0))), (fun h => h1 (kp h (by decide : (4 : Nat) ≠ 1))), (fun h => h2 (kp h (by decide : (4 : Nat) ≠ 2))), (fun h => h3 (kp h (by decide : (4 : Nat) ≠ 3))), (fun _ => rfl), (fun h => h5 (kp h (by decide : (4 : Nat) ≠ 5))), (fun h => h6 (kp h (by decide : (4 : Nat) ≠ 6))), (fun h => h7 (kp h (by decide : (4 : Nat) ≠ 7))), (fun h => h8 (kp h (by decide : (4 : Nat) ≠ 8))), (fun h => let ⟨b, e, hb⟩ := h9 (kp h (by decide : (4 : Nat) ≠ 9)); ⟨b, e, fun h' => hb (kpf h' (by decide : (4 : Nat) ≠ 10))⟩), (fun h => n0 (kpf h (by decide : (4 : Nat) ≠ 10))), (fun h => n1 (kp h (by decide : (4 : Nat) ≠ 10))), (fun h => m0 (kpf h (by decide : (4 : Nat) ≠ 11))), (fun h => absurd ((m1 (kp h (by decide : (4 : Nat) ≠ 11))).1 4 (by decide)) (by rw [hun]; decide))⟩
        · obtain rfl := Option.some.inj ho
          have D4 := tf (hdep ⟨4, .data⟩ (by simp) rfl)
          obtain rfl := h4 D4
          refine wpOp_step rfl (fun K hK => ?_)
          go_simp
          refine hK _ _ ?_
          refine ⟨u0, u1, u2, u3, _, _, u6, u7, u8, u9, u10, rfl, ⟨hB, c0, c1, hb5⟩, (fun h => h0 (kp h (by decide : (5 : Nat) ≠ 0))), (fun h => h1 (kp h (by decide : (5 : Nat) ≠ 1))), (fun h => h2 (kp h (by decide : (5 : Nat) ≠ 2))), (fun h => h3 (kp h (by decide : (5 : Nat) ≠ 3))), (fun _ => rfl), (fun _ => rfl), (fun h => h6 (kp h (by decide : (5 : Nat) ≠ 6))), (fun h => h7 (kp h (by decide : (5 : Nat) ≠ 7))), (fun h => h8 (kp h (by decide : (5 : Nat) ≠ 8))), (fun h => let ⟨b, e, hb⟩ := h9 (kp h (by decide : (5 : Nat) ≠ 9)); ⟨b, e, fun h' => hb (kpf h' (by decide : (5 : Nat) ≠ 10))⟩), (fun h => n0 (kpf h (by decide : (5 : Nat) ≠ 10))), (fun h => n1 (kp h (by decide : (5 : Nat) ≠ 10))), (fun h => m0 (kpf h (by decide : (5 : Nat) ≠ 11))), (fun h => absurd ((m1 (kp h (by decide : (5 : Nat) ≠ 11))).1 5 (by decide)) (by rw [hun]; decide))⟩
        · obtain rfl := Option.some.inj ho
          have D3 := tf (hdep ⟨3, .data⟩ (by simp) rfl)
          have D5 := tf (hdep ⟨5, .data⟩ (by simp) rfl)
          obtain rfl := h3 D3
          obtain rfl := h5 D5
          have hF : L.getD 11 true = false := by
            cases hL : L.getD 11 true with
            | false => rfl
            | true => have := (m1 hL).1 6 (by decide); rw [hun] at this; cases this
          have hlk := (m0 hF).lookup keyInt Try.underlying3 Try.underlying94 (zeroInts wx) hwf
          refine wpOp_step rfl (fun K hK => ?_)
          go_simp
          refine hK _ _ ?_
          refine ⟨u0, u1, u2, _, u4, _, _, u7, u8, u9, u10, rfl, ⟨hB, c0, c1, hb5⟩, (fun h => h0 (kp h (by decide : (6 : Nat) ≠ 0))), (fun h => h1 (kp h (by decide : (6 : Nat) ≠ 1))), (fun h => h2 (kp h (by decide : (6 : Nat) ≠ 2))), (fun _ => rfl), (fun h => h4 (kp h (by decide : (6 : Nat) ≠ 4))), (fun _ => rfl), (fun _ => rfl), (fun h => h7 (kp h (by decide : (6 : Nat) ≠ 7))), (fun h => h8 (kp h (by decide : (6 : Nat) ≠ 8))), (fun h => let ⟨b, e, hb⟩ := h9 (kp h (by decide : (6 : Nat) ≠ 9)); ⟨b, e, fun h' => hb (kpf h' (by decide : (6 : Nat) ≠ 10))⟩), (fun h => n0 (kpf h (by decide : (6 : Nat) ≠ 10))), (fun h => n1 (kp h (by decide : (6 : Nat) ≠ 10))), (fun h => m0 (kpf h (by decide : (6 : Nat) ≠ 11))), (fun h => absurd ((m1 (kp h (by decide : (6 : Nat) ≠ 11))).1 6 (by decide)) (by rw [hun]; decide))⟩
        · obtain rfl := Option.some.inj ho
          refine wpOp_step rfl (fun K hK => ?_)
          go_simp
          refine hK _ _ ?_
          refine ⟨u0, u1, u2, u3, u4, u5, u6, _, u8, u9, u10, rfl, ⟨hB, c0, c1, hb5⟩, (fun h => h0 (kp h (by decide : (7 : Nat) ≠ 0))), (fun h => h1 (kp h (by decide : (7 : Nat) ≠ 1))), (fun h => h2 (kp h (by decide : (7 : Nat) ≠ 2))), (fun h => h3 (kp h (by decide : (7 : Nat) ≠ 3))), (fun h => h4 (kp h (by decide : (7 : Nat) ≠ 4))), (fun h => h5 (kp h (by decide : (7 : Nat) ≠ 5))), (fun h => h6 (kp h (by decide : (7 : Nat) ≠ 6))), (fun _ => rfl), (fun h => h8 (kp h (by decide : (7 : Nat) ≠ 8))), (fun h => let ⟨b, e, hb⟩ := h9 (kp h (by decide : (7 : Nat) ≠ 9)); ⟨b, e, fun h' => hb (kpf h' (by decide : (7 : Nat) ≠ 10))⟩), (fun h => n0 (kpf h (by decide : (7 : Nat) ≠ 10))), (fun h => n1 (kp h (by decide : (7 : Nat) ≠ 10))), (fun h => m0 (kpf h (by decide : (7 : Nat) ≠ 11))), (fun h => absurd ((m1 (kp h (by decide : (7 : Nat) ≠ 11))).1 7 (by decide)) (by rw [hun]; decide))⟩
        · obtain rfl := Option.some.inj ho
          have D7 := tf (hdep ⟨7, .data⟩ (by simp) rfl)
          obtain rfl := h7 D7
          refine wpOp_step rfl (fun K hK => ?_)
          go_simp
          refine hK _ _ ?_
          refine ⟨u0, u1, u2, u3, u4, u5, u6, _, _, u9, u10, rfl, ⟨hB, c0, c1, hb5⟩, (fun h => h0 (kp h (by decide : (8 : Nat) ≠ 0))), (fun h => h1 (kp h (by decide : (8 : Nat) ≠ 1))), (fun h => h2 (kp h (by decide : (8 : Nat) ≠ 2))), (fun h => h3 (kp h (by decide : (8 : Nat) ≠ 3))), (fun h => h4 (kp h (by decide : (8 : Nat) ≠ 4))), (fun h => h5 (kp h (by decide : (8 : Nat) ≠ 5))), (fun h => h6 (kp h (by decide : (8 : Nat) ≠ 6))), (fun _ => rfl), (fun _ => rfl), (fun h => let ⟨b, e, hb⟩ := h9 (kp h (by decide : (8 : Nat) ≠ 9)); ⟨b, e, fun h' => hb (kpf h' (by decide : (8 : Nat) ≠ 10))⟩), (fun h => n0 (kpf h (by decide : (8 : Nat) ≠ 10))), (fun h => n1 (kp h (by decide : (8 : Nat) ≠ 10))), (fun h => m0 (kpf h (by decide : (8 : Nat) ≠ 11))), (fun h => absurd ((m1 (kp h (by decide : (8 : Nat) ≠ 11))).1 8 (by decide)) (by rw [hun]; decide))⟩
        · obtain rfl := Option.some.inj ho
          have D8 := tf (hdep ⟨8, .data⟩ (by simp) rfl)
          obtain rfl := h8 D8
          refine wpOp_step rfl (fun K hK => ?_)
          go_simp
          refine hK _ _ ?_
          refine ⟨u0, u1, u2, u3, u4, u5, u6, u7, _, _, u10, rfl, ⟨hB.alloc hB.size _, cell_alloc_keep _ c0, cell_alloc_keep _ c1, by simp; omega⟩, (fun h => h0 (kp h (by decide : (9 : Nat) ≠ 0))), (fun h => h1 (kp h (by decide : (9 : Nat) ≠ 1))), (fun h => h2 (kp h (by decide : (9 : Nat) ≠ 2))), (fun h => h3 (kp h (by decide : (9 : Nat) ≠ 3))), (fun h => h4 (kp h (by decide : (9 : Nat) ≠ 4))), (fun h => h5 (kp h (by decide : (9 : Nat) ≠ 5))), (fun h => h6 (kp h (by decide : (9 : Nat) ≠ 6))), (fun h => h7 (kp h (by decide : (9 : Nat) ≠ 7))), (fun _ => rfl), (fun _ => ⟨wx.heap.size, rfl, fun _ => by simp⟩), (fun h => (n0 (kpf h (by decide : (9 : Nat) ≠ 10))).alloc _), (fun h => (n1 (kp h (by decide : (9 : Nat) ≠ 10))).alloc _), (fun h => (m0 (kpf h (by decide : (9 : Nat) ≠ 11))).alloc _), (fun h => absurd ((m1 (kp h (by decide : (9 : Nat) ≠ 11))).1 9 (by decide)) (by rw [hun]; decide))⟩
        · obtain rfl := Option.some.inj ho
          have D6 := tf (hdep ⟨6, .data⟩ (by simp) rfl)
          have D9 := tf (hdep ⟨9, .data⟩ (by simp) rfl)
          obtain rfl := h6 D6
          obtain ⟨b, rfl, hcb⟩ := h9 D9
          have hcb' := hcb hun
          have hmb := (n0 hun).append (ty := 23) Try.underlying23 info_int r.f r.t (by first | assumption | omega) hcb' (by omega) hb5
          obtain ⟨v', w', hrun, hN', hg⟩ := hmb
          refine wpOp_append rfl rfl _ _ 23 rfl rfl rfl hrun ?_
          refine ⟨u0, u1, u2, u3, u4, u5, _, u7, u8, _, _, rfl, ⟨?_, ?_, ?_, Nat.lt_of_lt_of_le hb5 hg.size⟩, (fun h => h0 (kp h (by decide : (10 : Nat) ≠ 0))), (fun h => h1 (kp h (by decide : (10 : Nat) ≠ 1))), (fun h => h2 (kp h (by decide : (10 : Nat) ≠ 2))), (fun h => h3 (kp h (by decide : (10 : Nat) ≠ 3))), (fun h => h4 (kp h (by decide : (10 : Nat) ≠ 4))), (fun h => h5 (kp h (by decide : (10 : Nat) ≠ 5))), (fun _ => rfl), (fun h => h7 (kp h (by decide : (10 : Nat) ≠ 7))), (fun h => h8 (kp h (by decide : (10 : Nat) ≠ 8))), (fun _ => ⟨b, rfl, fun h => absurd (getD_set_self L 10) (by rw [h]; decide)⟩), (fun h => absurd (getD_set_self L 10) (by rw [h]; decide)), (fun _ => hN'), (fun h => (m0 (kpf h (by decide : (10 : Nat) ≠ 11))).kept hg ?_), (fun h => absurd ((m1 (kp h (by decide : (10 : Nat) ≠ 11))).1 10 (by decide)) (by rw [hun]; decide))⟩
          · exact below_own hB hg (fun g e => by have := ((n0 hun).row r.f).lt g e; omega)
          · exact hg.cell (a := ⟨b5, 0, none⟩) c0 (fun e => (n0 hun).not r.f e.symm)
          · exact hg.cell (a := ⟨b5, 1, none⟩) c1 (fun e => (n0 hun).not r.f e.symm)
          · intro e; have := ((n0 hun).row r.f).lt _ e.symm; omega
        · obtain rfl := Option.some.inj ho
          have D0 := tf (hdep ⟨0, .data⟩ (by simp) rfl)
          have D2 := tf (hdep ⟨2, .data⟩ (by simp) rfl)
          have D10 := tf (hdep ⟨10, .data⟩ (by simp) rfl)
          obtain rfl := h0 D0
          obtain rfl := h2 D2
          have hF : L.getD 11 true = false := hun
          obtain ⟨w', hrun, hM', hg⟩ := (m0 hF).update keyInt Try.underlying3 Try.underlying94 (by unfold maxLen; omega) hwf u10
          refine wpOp_step rfl (fun K hK => ?_)
          go_simp
          refine hK _ _ ?_
          refine ⟨_, u1, _, u3, u4, u5, u6, u7, u8, u9, u10, rfl, ⟨?_, ?_, ?_, Nat.lt_of_lt_of_le hb5 hg.size⟩, (fun _ => rfl), (fun h => h1 (kp h (by decide : (11 : Nat) ≠ 1))), (fun _ => rfl), (fun h => h3 (kp h (by decide : (11 : Nat) ≠ 3))), (fun h => h4 (kp h (by decide : (11 : Nat) ≠ 4))), (fun h => h5 (kp h (by decide : (11 : Nat) ≠ 5))), (fun h => h6 (kp h (by decide : (11 : Nat) ≠ 6))), (fun h => h7 (kp h (by decide : (11 : Nat) ≠ 7))), (fun h => h8 (kp h (by decide : (11 : Nat) ≠ 8))), (fun h => let ⟨b, e, hb⟩ := h9 (kp h (by decide : (11 : Nat) ≠ 9)); ⟨b, e, fun h' => absurd D10 (by rw [(kpf h' (by decide : (11 : Nat) ≠ 10))]; decide)⟩), (fun h => absurd D10 (by rw [(kpf h (by decide : (11 : Nat) ≠ 10))]; decide)), (fun _ => (n1 D10).map hg), (fun h => absurd (getD_set_self L 11) (by rw [h]; decide)), (fun _ => ⟨?_, hM'⟩)⟩
          · exact below_own hB hg (fun g e => by simp at e; omega)
          · exact hg.cell (a := ⟨b5, 0, none⟩) c0 (by simp; omega)
          · exact hg.cell (a := ⟨b5, 1, none⟩) c1 (by simp; omega)
          · intro j hj
            rw [getD_set_ne true (by omega)]
            have hj' : j = 0 ∨ j = 1 ∨ j = 2 ∨ j = 3 ∨ j = 4 ∨ j = 5 ∨ j = 6 ∨ j = 7 ∨ j = 8 ∨ j = 9 ∨ j = 10 := by omega
            rcases hj' with rfl | rfl | rfl | rfl | rfl | rfl | rfl | rfl | rfl | rfl | rfl
            · exact tf (hdep ⟨0, .phase⟩ (by simp) rfl)
            · exact tf (hdep ⟨1, .phase⟩ (by simp) rfl)
            · exact tf (hdep ⟨2, .phase⟩ (by simp) rfl)
            · exact tf (hdep ⟨3, .phase⟩ (by simp) rfl)
            · exact tf (hdep ⟨4, .phase⟩ (by simp) rfl)
            · exact tf (hdep ⟨5, .phase⟩ (by simp) rfl)
            · exact tf (hdep ⟨6, .phase⟩ (by simp) rfl)
            · exact tf (hdep ⟨7, .phase⟩ (by simp) rfl)
            · exact tf (hdep ⟨8, .phase⟩ (by simp) rfl)
            · exact tf (hdep ⟨9, .phase⟩ (by simp) rfl)
            · exact tf (hdep ⟨10, .phase⟩ (by simp) rfl)
      · intro L a' wx hI hall
        obtain ⟨u0, u1, u2, u3, u4, u5, u6, u7, u8, u9, u10, rfl, ⟨hB, c0, c1, hb5⟩, h0, h1, h2, h3, h4, h5, h6, h7, h8, h9, n0, n1, m0, m1⟩ := hI
        have N1 := n1 (hall 10 (by decide))
        have M1 := (m1 (hall 11 (by decide))).2
        clear h0 h1 h2 h3 h4 h5 h6 h7 h8 h9 n0 n1 m0 m1 hall
        obtain ⟨z0, z1, z2, z3, z4, z5, z6, z7, z8, z9, z10, e⟩ : ∃ z0 z1 z2 z3 z4 z5 z6 z7 z8 z9 z10 : Value, z0 = u0 ∧ z1 = u1 ∧ z2 = u2 ∧ z3 = u3 ∧ z4 = u4 ∧ z5 = u5 ∧ z6 = u6 ∧ z7 = u7 ∧ z8 = u8 ∧ z9 = u9 ∧ z10 = u10 := ⟨_, _, _, _, _, _, _, _, _, _, _, rfl, rfl, rfl, rfl, rfl, rfl, rfl, rfl, rfl, rfl, rfl⟩
        obtain ⟨rfl, rfl, rfl, rfl, rfl, rfl, rfl, rfl, rfl, rfl, rfl⟩ := e
        have W6 : Hid (Below w.heap.size w wx ∧ wx.cell? ⟨b5, 0, none⟩ = some (.int .i64 r.f) ∧ wx.cell? ⟨b5, 1, none⟩ = some (.int .i64 r.t) ∧ b5 < wx.heap.size ∧ Nbs 3 wx w.heap.size b5 (upd f r.f z10) (upd (nb (rs.take k)) r.f (nb (rs.take k) r.f ++ [r.t])) ∧ MapV Try.prog 3 wx w.heap.size (2 * k + 1) (.slice none 0 0) (upd f r.f z10)) := Lib.hid ⟨hB, c0, c1, hb5, N1, M1⟩
        clear hB c0 c1 hb5 N1 M1 W5
        generalize hf' : upd f r.f z10 = f' at W6
        generalize hq' : upd (nb (rs.take k)) r.f (nb (rs.take k) r.f ++ [r.t]) = q' at W6
        have hql : (q' r.t).length ≤ 1000000 := by rw [← hq', upd_other _ _ (Ne.symm q4)]; omega
        have HQ := Lib.hid (And.intro hf' hq')
        clear hf' hq' ql
        dsimp only
        go_upto_region 6 with fail
        refine wp_region_inv (by kernel_rfl) (by kernel_rfl) (fun L fr wx => ∃ (u0 u1 u2 u3 u4 u5 u6 u7 u8 u9 u10 : Value), fr = ⟨#[Value.slice (some { block := D, off := o }) rs.length c, undef, Value.map none, Value.map (some w.heap.size), undef, Value.pointer (some { block := b5, off := 0 }), Value.map (some w.heap.size), Value.slice (some { block := D, off := o }) rs.length c, Value.int IntKind.i64 ↑rs.length, Value.int IntKind.i64 ↑k, Value.bool true, Value.pointer (some { block := D, off := o + k * 4 }), Value.agg #[Value.int IntKind.i64 r.f, Value.int IntKind.i64 r.t, Value.int IntKind.i64 r.s, Value.int IntKind.i64 r.g], z0, z1, z2, z3, z4, z5, z6, z7, z8, z9, z10, u0, u1, u2, u3, u4, u5, u6, u7, u8, u9, u10, u35, undef], []⟩ ∧ (Below w.heap.size w wx ∧ wx.cell? ⟨b5, 0, none⟩ = some (.int .i64 r.f) ∧ wx.cell? ⟨b5, 1, none⟩ = some (.int .i64 r.t) ∧ b5 < wx.heap.size) ∧ (L.getD 0 true = true → u0 = .map (some w.heap.size)) ∧ (L.getD 1 true = true → u1 = .pointer (some ⟨b5, 1, none⟩)) ∧ (L.getD 2 true = true → u2 = .int .i64 r.t) ∧ (L.getD 3 true = true → u3 = .map (some w.heap.size)) ∧ (L.getD 4 true = true → u4 = .pointer (some ⟨b5, 1, none⟩)) ∧ (L.getD 5 true = true → u5 = .int .i64 r.t) ∧ (L.getD 6 true = true → u6 = f' r.t) ∧ (L.getD 7 true = true → u7 = .pointer (some ⟨b5, 0, none⟩)) ∧ (L.getD 8 true = true → u8 = .int .i64 r.f) ∧ (L.getD 9 true = true → ∃ b, u9 = .slice (some ⟨b, 0, none⟩) 1 1 ∧ (L.getD 10 true = false → wx.cell? ⟨b, 0, none⟩ = some (.int .i64 r.f))) ∧ (L.getD 10 true = false → Nbs 3 wx w.heap.size b5 f' q') ∧ (L.getD 10 true = true → Nbs 3 wx w.heap.size b5 (upd f' r.t u10) (upd q' r.t (q' r.t ++ [r.f]))) ∧ (L.getD 11 true = false → MapV Try.prog 3 wx w.heap.size (2 * k + 1) (.slice none 0 0) f') ∧ (L.getD 11 true = true → (∀ j, j < 11 → L.getD j true = true) ∧ MapV Try.prog 3 wx w.heap.size (2 * k + 1 + 1) (.slice none 0 0) (upd f' r.t u10))) ?_ ?_ ?_
        · refine ⟨_, _, _, _, _, _, _, _, _, _, _, rfl, ⟨below_drew W6.out.1, W6.out.2.1, W6.out.2.2.1, W6.out.2.2.2.1⟩, ?_⟩
          refine ⟨?_, ?_, ?_, ?_, ?_, ?_, ?_, ?_, ?_, ?_, fun _ => (W6.out.2.2.2.2.1).drew, fun h => absurd h (by decide), fun _ => W6.out.2.2.2.2.2, fun h => absurd h (by decide)⟩ <;> (intro h; exact absurd h (by decide))
        · intro L a' wx i o hI ho hun hdep
          obtain ⟨u0, u1, u2, u3, u4, u5, u6, u7, u8, u9, u10, rfl, ⟨hB, c0, c1, hb5⟩, h0, h1, h2, h3, h4, h5, h6, h7, h8, h9, n0, n1, m0, m1⟩ := hI
          have hi : i < 12 := (Array.getElem?_eq_some_iff.1 ho).1
          have hi' : i = 0 ∨ i = 1 ∨ i = 2 ∨ i = 3 ∨ i = 4 ∨ i = 5 ∨ i = 6 ∨ i = 7 ∨ i = 8 ∨ i = 9 ∨ i = 10 ∨ i = 11 := by omega
          clear hi
          rcases hi' with rfl | rfl | rfl | rfl | rfl | rfl | rfl | rfl | rfl | rfl | rfl | rfl
          · obtain rfl := Option.some.inj ho
            refine wpOp_step rfl (fun K hK => ?_)
            go_simp
            refine hK _ _ ?_
            refine ⟨_, u1, u2, u3, u4, u5, u6, u7, u8, u9, u10, rfl, ⟨hB, c0, c1, hb5⟩, (fun _ => rfl), (fun h => h1 (kp h (by decide : (0 : Nat) ≠ 1))), (fun h => h2 (kp h (by decide : (0 : Nat) ≠ 2))), (fun h => h3 (kp h (by decide : (0 : Nat) ≠ 3))), (fun h => h4 (kp h (by decide : (0 : Nat) ≠ 4))), (fun h => h5 (kp h (by decide : (0 : Nat) ≠ 5))), (fun h => h6 (kp h (by decide : (0 : Nat) ≠ 6))), (fun h => h7 (kp h (by decide : (0 : Nat) ≠ 7))), (fun h => h8 (kp h (by decide : (0 : Nat) ≠ 8))), (fun h => let ⟨b, e, hb⟩ := h9 (kp h (by decide : (0 : Nat) ≠ 9)); ⟨b, e, fun h' => hb (kpf h' (by decide : (0 : Nat) ≠ 10))⟩), (fun h => n0 (kpf h (by decide : (0 : Nat) ≠ 10))), (fun h => n1 (kp h (by decide : (0 : Nat) ≠ 10))), (fun h => m0 (kpf h (by decide : (0 : Nat) ≠ 11))), (fun h => absurd ((m1 (kp h (by decide : (0 : Nat) ≠ 11))).1 0 (by decide)) (by rw [hun]; decide))⟩
          · obtain rfl := Option.some.inj ho
            refine wpOp_step rfl (fun K hK => ?_)
            go_simp
            refine hK _ _ ?_
            refine ⟨u0, _, u2, u3, u4, u5, u6, u7, u8, u9, u10, rfl, ⟨hB, c0, c1, hb5⟩, (fun h => h0 (kp h (by decide : (1 : Nat) ≠ 0))), (fun _ => rfl), (fun h => h2 (kp h (by decide : (1 : Nat) ≠ 2))), (fun h => h3 (kp h (by decide : (1 : Nat) ≠ 3))), (fun h => h4 (kp h (by decide : (1 : Nat) ≠ 4))), (fun h => h5 (kp h (by decide : (1 : Nat) ≠ 5))), (fun h => h6 (kp h (by decide : (1 : Nat) ≠ 6))), (fun h => h7 (kp h (by decide : (1 : Nat) ≠ 7))), (fun h => h8 (kp h (by decide : (1 : Nat) ≠ 8))), (fun h => let ⟨b, e, hb⟩ := h9 (kp h (by decide : (1 : Nat) ≠ 9)); ⟨b, e, fun h' => hb (kpf h' (by decide : (1 : Nat) ≠ 10))⟩), (fun h => n0 (kpf h (by decide : (1 : Nat) ≠ 10))), (fun h => n1 (kp h (by decide : (1 : Nat) ≠ 10))), (fun h => m0 (kpf h (by decide : (1 : Nat) ≠ 11))), (fun h => absurd ((m1 (kp h (by decide : (1 : Nat) ≠ 11))).1 1 (by decide)) (by rw [hun]; decide))⟩
          · obtain rfl := Option.some.inj ho
            have D1 := tf (hdep ⟨1, .data⟩ (by simp) rfl)
            obtain rfl := h1 D1
            refine wpOp_step rfl (fun K hK => ?_)
            go_simp
            refine hK _ _ ?_
            refine ⟨u0, _, _, u3, u4, u5, u6, u7, u8, u9, u10, rfl, ⟨hB, c0, c1, hb5⟩, (fun h => h0 (kp h (by decide : (2 : Nat) ≠ 0))), (fun _ => rfl), (fun _ => rfl), (fun h => h3 (kp h (by decide : (2 : Nat) ≠ 3))), (fun h => h4 (kp h (by decide : (2 : Nat) ≠ 4))), (fun h => h5 (kp h (by decide : (2 : Nat) ≠ 5))), (fun h => h6 (kp h (by decide : (2 : Nat) ≠ 6))), (fun h => h7 (kp h (by decide : (2 : Nat) ≠ 7))), (fun h => h8 (kp h (by decide : (2 : Nat) ≠ 8))), (fun h => let ⟨b, e, hb⟩ := h9 (kp h (by decide : (2 : Nat) ≠ 9)); ⟨b, e, fun h' => hb (kpf h' (by decide : (2 : Nat) ≠ 10))⟩), (fun h => n0 (kpf h (by decide : (2 : Nat) ≠ 10))), (fun h => n1 (kp h (by decide : (2 : Nat) ≠ 10))), (fun h => m0 (kpf h (by decide : (2 : Nat) ≠ 11))), (fun h => absurd ((m1 (kp h (by decide : (2 : Nat) ≠ 11))).1 2 (by decide)) (by rw [hun]; decide))⟩
          · obtain rfl := Option.some.inj ho
            refine wpOp_step rfl (fun K hK => ?_)
            go_simp
            refine hK _ _ ?_
            refine ⟨u0, u1, u2, _, u4, u5, u6, u7, u8, u9, u10, rfl, ⟨hB, c0, c1, hb5⟩, (fun h => h0 (kp h (by decide : (3 : Nat) ≠ 0))), (fun h => h1 (kp h (by decide : (3 : Nat) ≠ 1))), (fun h => h2 (kp h (by decide : (3 : Nat) ≠ 2))), (fun _ => rfl), (fun h => h4 (kp h (by decide : (3 : Nat) ≠ 4))), (fun h => h5 (kp h (by decide : (3 : Nat) ≠ 5))), (fun h => h6 (kp h (by decide : (3 : Nat) ≠ 6))), (fun h => h7 (kp h (by decide : (3 : Nat) ≠ 7))), (fun h => h8 (kp h (by decide : (3 : Nat) ≠ 8))), (fun h => let ⟨b, e, hb⟩ := h9 (kp h (by decide : (3 : Nat) ≠ 9)); ⟨b, e, fun h' => hb (kpf h' (by decide : (3 : Nat) ≠ 10))⟩), (fun h => n0 (kpf h (by decide : (3 : Nat) ≠ 10))), (fun h => n1 (kp h (by decide : (3 : Nat) ≠ 10))), (fun h => m0 (kpf h (by decide : (3 : Nat) ≠ 11))), (fun h => absurd ((m1 (kp h (by decide : (3 : Nat) ≠ 11))).1 3 (by decide)) (by rw [hun]; decide))⟩
          · obtain rfl := Option.some.inj ho
            refine wpOp_step rfl (fun K hK => ?_)
            go_simp
            refine hK _ _ ?_
            refine ⟨u0, u1, u2, u3, _, u5, u6, u7, u8, u9, u10, rfl, ⟨hB, c0, c1, hb5⟩, (fun h => h0 (kp h (by decide : (4 : Nat) ≠ 0))), (fun h => h1 (kp h (by decide : (4 : Nat) ≠ 1))), (fun h => h2 (kp h (by decide : (4 : Nat) ≠ 2))), (fun h => h3 (kp h (by decide : (4 : Nat) ≠ 3))), (fun _ => rfl), (fun h => h5 (kp h (by decide : (4 : Nat) ≠ 5))), (fun h => h6 (kp h (by decide : (4 : Nat) ≠ 6))), (fun h => h7 (kp h (by decide : (4 : Nat) ≠ 7))), (fun h => h8 (kp h (by decide : (4 : Nat) ≠ 8))), (fun h => let ⟨b, e, hb⟩ := h9 (kp h (by decide : (4 : Nat) ≠ 9)); ⟨b, e, fun h' => hb (kpf h' (by decide : (4 : Nat) ≠ 10))⟩), (fun h => n0 (kpf h (by decide : (4 : Nat) ≠ 10))), (fun h => n1 (kp h (by decide : (4 : Nat) ≠ 10))), (fun h => m0 (kpf h (by decide : (4 : Nat) ≠ 11))), (fun h => absurd ((m1 (kp h (by decide : (4 : Nat) ≠ 11))).1 4 (by decide)) (by rw [hun]; decide))⟩
          · obtain rfl := Option.some.inj ho
            have D4 := tf (hdep ⟨4, .data⟩ (by simp) rfl)
            obtain rfl := h4 D4
            refine wpOp_step rfl (fun K hK => ?_)
            go_simp
            refine hK _ _ ?_
            refine ⟨u0, u1, u2, u3, _, _, u6, u7, u8, u9, u10, rfl, ⟨hB, c0, c1, hb5⟩, (fun h => h0 (kp h (by decide : (5 : Nat) ≠ 0))), (fun h => h1 (kp h (by decide : (5 : Nat) ≠ 1))), (fun h => h2 (kp h (by decide : (5 : Nat) ≠ 2))), (fun h => h3 (kp h (by decide : (5 : Nat) ≠ 3))), (fun _ => rfl), (fun _ => rfl), (fun h => h6 (kp h (by decide : (5 : Nat) ≠ 6))), (fun h => h7 (kp h (by decide : (5 : Nat) ≠ 7))), (fun h => h8 (kp h (by decide : (5 : Nat) ≠ 8))), (fun h => let ⟨b, e, hb⟩ := h9 (kp h (by decide : (5 : Nat) ≠ 9)); ⟨b, e, fun h' => hb (kpf h' (by decide : (5 : Nat) ≠ 10))⟩), (fun h => n0 (kpf h (by decide : (5 : Nat) ≠ 10))), (fun h => n1 (kp h (by decide : (5 : Nat) ≠ 10))), (fun h => m0 (kpf h (by decide : (5 : Nat) ≠ 11))), (fun h => absurd ((m1 (kp h (by decide : (5 : Nat) ≠ 11))).1 5 (by decide)) (by rw [hun]; decide))⟩
          · obtain rfl := Option.some.inj ho
            have D3 := tf (hdep ⟨3, .data⟩ (by simp) rfl)
            have D5 := tf (hdep ⟨5, .data⟩ (by simp) rfl)
            obtain rfl := h3 D3
            obtain rfl := h5 D5
            have hF : L.getD 11 true = false := by
              cases hL : L.getD 11 true with
              | false => rfl
              | true => have := (m1 hL).1 6 (by decide); rw [hun] at this; cases this
            have hlk := (m0 hF).lookup keyInt Try.underlying3 Try.underlying94 (zeroInts wx) hwt
            refine wpOp_step rfl (fun K hK => ?_)
            go_simp
            refine hK _ _ ?_
            refine ⟨u0, u1, u2, _, u4, _, _, u7, u8, u9, u10, rfl, ⟨hB, c0, c1, hb5⟩, (fun h => h0 (kp h (by decide : (6 : Nat) ≠ 0))), (fun h => h1 (kp h (by decide : (6 : Nat) ≠ 1))), (fun h => h2 (kp h (by decide : (6 : Nat) ≠ 2))), (fun _ => rfl), (fun h => h4 (kp h (by decide : (6 : Nat) ≠ 4))), (fun _ => rfl), (fun _ => rfl), (fun h => h7 (kp h (by decide : (6 : Nat) ≠ 7))), (fun h => h8 (kp h (by decide : (6 : Nat) ≠ 8))), (fun h => let ⟨b, e, hb⟩ := h9 (kp h (by decide : (6 : Nat) ≠ 9)); ⟨b, e, fun h' => hb (kpf h' (by decide : (6 : Nat) ≠ 10))⟩), (fun h => n0 (kpf h (by decide : (6 : Nat) ≠ 10))), (fun h => n1 (kp h (by decide : (6 : Nat) ≠ 10))), (fun h => m0 (kpf h (by decide : (6 : Nat) ≠ 11))), (fun h => absurd ((m1 (kp h (by decide : (6 : Nat) ≠ 11))).1 6 (by decide)) (by rw [hun]; decide))⟩
          · obtain rfl := Option.some.inj ho
            refine wpOp_step rfl (fun K hK => ?_)
            go_simp
            refine hK _ _ ?_
            refine ⟨u0, u1, u2, u3, u4, u5, u6, _, u8, u9, u10, rfl, ⟨hB, c0, c1, hb5⟩, (fun h => h0 (kp h (by decide : (7 : Nat) ≠ 0))), (fun h => h1 (kp h (by decide : (7 : Nat) ≠ 1))), (fun h => h2 (kp h (by decide : (7 : Nat) ≠ 2))), (fun h => h3 (kp h (by decide : (7 : Nat) ≠ 3))), (fun h => h4 (kp h (by decide : (7 : Nat) ≠ 4))), (fun h => h5 (kp h (by decide : (7 : Nat) ≠ 5))), (fun h => h6 (kp h (by decide : (7 : Nat) ≠ 6))), (fun _ => rfl), (fun h => h8 (kp h (by decide : (7 : Nat) ≠ 8))), (fun h => let ⟨b, e, hb⟩ := h9 (kp h (by decide : (7 : Nat) ≠ 9)); ⟨b, e, fun h' => hb (kpf h' (by decide : (7 : Nat) ≠ 10))⟩), (fun h => n0 (kpf h (by decide : (7 : Nat) ≠ 10))), (fun h => n1 (kp h (by decide : (7 : Nat) ≠ 10))), (fun h => m0 (kpf h (by decide : (7 : Nat) ≠ 11))), (fun h => absurd ((m1 (kp h (by decide : (7 : Nat) ≠ 11))).1 7 (by decide)) (by rw [hun]; decide))⟩
          · obtain rfl := Option.some.inj ho
            have D7 := tf (hdep ⟨7, .data⟩ (by simp) rfl)
            obtain rfl := h7 D7
            refine wpOp_step rfl (fun K hK => ?_)
            go_simp
            refine hK _ _ ?_
            refine ⟨u0, u1, u2, u3, u4, u5, u6, _, _, u9, u10, rfl, ⟨hB, c0, c1, hb5⟩, (fun h => h0 (kp h (by decide : (8 : Nat) ≠ 0))), (fun h => h1 (kp h (by decide : (8 : Nat) ≠ 1))), (fun h => h2 (kp h (by decide : (8 : Nat) ≠ 2))), (fun h => h3 (kp h (by decide : (8 : Nat) ≠ 3))), (fun h => h4 (kp h (by decide : (8 : Nat) ≠ 4))), (fun h => h5 (kp h (by decide : (8 : Nat) ≠ 5))), (fun h => h6 (kp h (by decide : (8 : Nat) ≠ 6))), (fun _ => rfl), (fun _ => rfl), (fun h => let ⟨b, e, hb⟩ := h9 (kp h (by decide : (8 : Nat) ≠ 9)); ⟨b, e, fun h' => hb (kpf h' (by decide : (8 : Nat) ≠ 10))⟩), (fun h => n0 (kpf h (by decide : (8 : Nat) ≠ 10))), (fun h => n1 (kp h (by decide : (8 : Nat) ≠ 10))), (fun h => m0 (kpf h (by decide : (8 : Nat) ≠ 11))), (fun h => absurd ((m1 (kp h (by decide : (8 : Nat) ≠ 11))).1 8 (by decide)) (by rw [hun]; decide))⟩
          · obtain rfl := Option.some.inj ho
            have D8 := tf (hdep ⟨8, .data⟩ (by simp) rfl)
            obtain rfl := h8 D8
            refine wpOp_step rfl (fun K hK => ?_)
            go_simp
            refine hK _ _ ?_
            refine ⟨u0, u1, u2, u3, u4, u5, u6, u7, _, _, u10, rfl, ⟨hB.alloc hB.size _, cell_alloc_keep _ c0, cell_alloc_keep _ c1, by simp; omega⟩, (fun h => h0 (kp h (by decide : (9 : Nat) ≠ 0))), (fun h => h1 (kp h (by decide : (9 : Nat) ≠ 1))), (fun h => h2 (kp h (by decide : (9 : Nat) ≠ 2))), (fun h => h3 (kp h (by decide : (9 : Nat) ≠ 3))), (fun h => h4 (kp h (by decide : (9 : Nat) ≠ 4))), (fun h => h5 (kp h (by decide : (9 : Nat) ≠ 5))), (fun h => h6 (kp h (by decide : (9 : Nat) ≠ 6))), (fun h => h7 (kp h (by decide : (9 : Nat) ≠ 7))), (fun _ => rfl), (fun _ => ⟨wx.heap.size, rfl, fun _ => by simp⟩), (fun h => (n0 (kpf h (by decide : (9 : Nat) ≠ 10))).alloc _), (fun h => (n1 (kp h (by decide : (9 : Nat) ≠ 10))).alloc _), (fun h => (m0 (kpf h (by decide : (9 : Nat) ≠ 11))).alloc _), (fun h => absurd ((m1 (kp h (by decide : (9 : Nat) ≠ 11))).1 9 (by decide)) (by rw [hun]; decide))⟩
          · obtain rfl := Option.some.inj ho
            have D6 := tf (hdep ⟨6, .data⟩ (by simp) rfl)
            have D9 := tf (hdep ⟨9, .data⟩ (by simp) rfl)
            obtain rfl := h6 D6
            obtain ⟨b, rfl, hcb⟩ := h9 D9
            have hcb' := hcb hun
            have hmb := (n0 hun).append (ty := 23) Try.underlying23 info_int r.t r.f (by first | assumption | omega) hcb' (by omega) hb5
            obtain ⟨v', w', hrun, hN', hg⟩ := hmb
            refine wpOp_append rfl rfl _ _ 23 rfl rfl rfl hrun ?_
            refine ⟨u0, u1, u2, u3, u4, u5, _, u7, u8, _, _, rfl, ⟨?_, ?_, ?_, Nat.lt_of_lt_of_le hb5 hg.size⟩, (fun h => h0 (kp h (by decide : (10 : Nat) ≠ 0))), (fun h => h1 (kp h (by decide : (10 : Nat) ≠ 1))), (fun h => h2 (kp h (by decide : (10 : Nat) ≠ 2))), (fun h => h3 (kp h (by decide : (10 : Nat) ≠ 3))), (fun h => h4 (kp h (by decide : (10 : Nat) ≠ 4))), (fun h => h5 (kp h (by decide : (10 : Nat) ≠ 5))), (fun _ => rfl), (fun h => h7 (kp h (by decide : (10 : Nat) ≠ 7))), (fun h => h8 (kp h (by decide : (10 : Nat) ≠ 8))), (fun _ => ⟨b, rfl, fun h => absurd (getD_set_self L 10) (by rw [h]; decide)⟩), (fun h => absurd (getD_set_self L 10) (by rw [h]; decide)), (fun _ => hN'), (fun h => (m0 (kpf h (by decide : (10 : Nat) ≠ 11))).kept hg ?_), (fun h => absurd ((m1 (kp h (by decide : (10 : Nat) ≠ 11))).1 10 (by decide)) (by rw [hun]; decide))⟩
            · exact below_own hB hg (fun g e => by have := ((n0 hun).row r.t).lt g e; omega)
            · exact hg.cell (a := ⟨b5, 0, none⟩) c0 (fun e => (n0 hun).not r.t e.symm)
            · exact hg.cell (a := ⟨b5, 1, none⟩) c1 (fun e => (n0 hun).not r.t e.symm)
            · intro e; have := ((n0 hun).row r.t).lt _ e.symm; omega
          · obtain rfl := Option.some.inj ho
            have D0 := tf (hdep ⟨0, .data⟩ (by simp) rfl)
            have D2 := tf (hdep ⟨2, .data⟩ (by simp) rfl)
            have D10 := tf (hdep ⟨10, .data⟩ (by simp) rfl)
            obtain rfl := h0 D0
            obtain rfl := h2 D2
            have hF : L.getD 11 true = false := hun
            obtain ⟨w', hrun, hM', hg⟩ := (m0 hF).update keyInt Try.underlying3 Try.underlying94 (by unfold maxLen; omega) hwt u10
            refine wpOp_step rfl (fun K hK => ?_)
            go_simp
            refine hK _ _ ?_
            refine ⟨_, u1, _, u3, u4, u5, u6, u7, u8, u9, u10, rfl, ⟨?_, ?_, ?_, Nat.lt_of_lt_of_le hb5 hg.size⟩, (fun _ => rfl), (fun h => h1 (kp h (by decide : (11 : Nat) ≠ 1))), (fun _ => rfl), (fun h => h3 (kp h (by decide : (11 : Nat) ≠ 3))), (fun h => h4 (kp h (by decide : (11 : Nat) ≠ 4))), (fun h => h5 (kp h (by decide : (11 : Nat) ≠ 5))), (fun h => h6 (kp h (by decide : (11 : Nat) ≠ 6))), (fun h => h7 (kp h (by decide : (11 : Nat) ≠ 7))), (fun h => h8 (kp h (by decide : (11 : Nat) ≠ 8))), (fun h => let ⟨b, e, hb⟩ := h9 (kp h (by decide : (11 : Nat) ≠ 9)); ⟨b, e, fun h' => absurd D10 (by rw [(kpf h' (by decide : (11 : Nat) ≠ 10))]; decide)⟩), (fun h => absurd D10 (by rw [(kpf h (by decide : (11 : Nat) ≠ 10))]; decide)), (fun _ => (n1 D10).map hg), (fun h => absurd (getD_set_self L 11) (by rw [h]; decide)), (fun _ => ⟨?_, hM'⟩)⟩
            · exact below_own hB hg (fun g e => by simp at e; omega)
            · exact hg.cell (a := ⟨b5, 0, none⟩) c0 (by simp; omega)
            · exact hg.cell (a := ⟨b5, 1, none⟩) c1 (by simp; omega)
            · intro j hj
              rw [getD_set_ne true (by omega)]
              have hj' : j = 0 ∨ j = 1 ∨ j = 2 ∨ j = 3 ∨ j = 4 ∨ j = 5 ∨ j = 6 ∨ j = 7 ∨ j = 8 ∨ j = 9 ∨ j = 10 := by omega
              rcases hj' with rfl | rfl | rfl | rfl | rfl | rfl | rfl | rfl | rfl | rfl | rfl
              · exact tf (hdep ⟨0, .phase⟩ (by simp) rfl)
              · exact tf (hdep ⟨1, .phase⟩ (by simp) rfl)
              · exact tf (hdep ⟨2, .phase⟩ (by simp) rfl)
              · exact tf (hdep ⟨3, .phase⟩ (by simp) rfl)
              · exact tf (hdep ⟨4, .phase⟩ (by simp) rfl)
              · exact tf (hdep ⟨5, .phase⟩ (by simp) rfl)
              · exact tf (hdep ⟨6, .phase⟩ (by simp) rfl)
              · exact tf (hdep ⟨7, .phase⟩ (by simp) rfl)
              · exact tf (hdep ⟨8, .phase⟩ (by simp) rfl)
              · exact tf (hdep ⟨9, .phase⟩ (by simp) rfl)
              · exact tf (hdep ⟨10, .phase⟩ (by simp) rfl)
        · intro L a' wx hI hall
          obtain ⟨u0, u1, u2, u3, u4, u5, u6, u7, u8, u9, u10, rfl, ⟨hB, c0, c1, hb5⟩, h0, h1, h2, h3, h4, h5, h6, h7, h8, h9, n0, n1, m0, m1⟩ := hI
          have N1 := n1 (hall 10 (by decide))
          have M1 := (m1 (hall 11 (by decide))).2
          clear h0 h1 h2 h3 h4 h5 h6 h7 h8 h9 n0 n1 m0 m1 hall
          dsimp only
          have HF := Lib.hid (And.intro hB (And.intro N1 M1))
          clear hB c0 c1 hb5 N1 M1 W6
          go_wp2_with fail
          go_roundw
          case rel =>
            obtain ⟨hB, N1, M1⟩ := HF.out
            obtain ⟨hf', hq'⟩ := HQ.out
            have eq : upd q' r.t (q' r.t ++ [r.f]) = nb (rs.take (k + 1)) := by
              funext x
              rw [nb_take HR.out x, ← hq']
              by_cases e1 : x = r.f
              · subst e1
                simp [upd, q4]
              · by_cases e2 : x = r.t
                · subst e2
                  simp [upd, e1]
                · simp [upd, e1, e2]
            rw [eq] at N1
            exact ⟨k + 1, _, by omega, by go_num, by rw [show 2 * (k + 1) = 2 * k + 1 + 1 by omega]; exact M1, N1.atMap, hB⟩
          case measure => simp [intOf]; omega
    · have e : k = rs.length := by omega
      subst e
      have HN' := HN.out
      rw [List.take_length] at HN'
      have HN2 := Lib.hid HN'
      clear HN HN'
      go_wp2_with fail
      go_ret
      exact ⟨f, rfl, HN2.out⟩
end Go.Proofs.Ytjfbkafekkbcdaa
