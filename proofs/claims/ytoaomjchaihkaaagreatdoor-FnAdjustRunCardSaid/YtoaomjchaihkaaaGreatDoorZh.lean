/-
  The map of neighbors that a net's runs give.
  The nodes that are linked with a node, collected by impl.linked.
  What impl.NetLinked answers.
  What NetWhole and NetLoops answer, in both programs.
  What NetLoops answers, in both programs.
  How the laws on draws compare lists; what labels have in common.
  How many least nodes there are with one run less. No function of the program is named.
  The first tree of a net is one. No function of the program is named.
-/
import Derived.Test.YtoaomjchaihkaaaGreatDoorZa
import Derived.Test.YtoaomjchaihkaaaGreatDoorZf
import Derived.Test.YtoaomjchaihkaaaGreatDoorZg
import Derived.Deep.DeepCutAuto
namespace Go.Proofs.YtoaomjchaihkaaaGreatDoor
open Go.RowKit
set_option linter.unusedVariables false

theorem kp {L : Array Bool} {i j : Nat} (h : (L.setIfInBounds i true).getD j true = true) (hne : i ≠ j) : L.getD j true = true := by rwa [getD_set_ne true hne] at h
theorem kpf {L : Array Bool} {i j : Nat} (h : (L.setIfInBounds i true).getD j true = false) (hne : i ≠ j) : L.getD j true = false := by rwa [getD_set_ne true hne] at h
theorem tf {L : Array Bool} {i : Nat} (h : L.getD i false = true) : L.getD i true = true := by
  by_cases hi : i < L.size
  · simp [hi] at h ⊢; exact h
  · simp [hi] at h
theorem keyInt : Maps.Keyed Tryz.prog 3 := Maps.int_keyed Tryz.underlying3
theorem zeroInts (w : World) : (zeroValue 30).run Tryz.prog w = .ok (.slice none 0 0) w := by kernel_rfl
theorem zeroBool (w : World) : (zeroValue 4).run Tryz.prog w = .ok (.bool false) w := by kernel_rfl
theorem wf_node {x : Int} (h0 : 0 ≤ x) (h1 : x < 100) : (Lit.int .i64 x).wf = true := WalkArith.wf_i64 (by omega)

/-- what stands between two runs -/
structure Near (w0 w : World) (k : Nat) (B c : Nat) (f : Int → Value) (q : Int → List Int) : Prop where
  map : MapV Tryz.prog 3 w B k (.slice none 0 0) f
  nbs : Nbs 3 w B c f q
  below : Below w0.heap.size w0 w

set_option maxHeartbeats 4000000 in
theorem neighbors_is (n : Int) (p : Option Addr) (c : Nat) (rs : List Rn) (w : World) (h : Runs w p rs) (hn : nOk n rs = true) :
    Calls Tryz.prog 116 #[.slice p rs.length c] w fun e w' => ∃ f, e = .returned (.map (some w.heap.size)) ∧ Near w w' (2 * rs.length) w.heap.size w.heap.size f (nb rs) := by
  have H := Lib.hid h
  obtain ⟨hn2, hn6, hl12, hall⟩ := nOk_true hn
  have HA := Lib.hid hall
  have HM := Lib.hid (MapV.made w Tryz.prog 3 (.slice none 0 0))
  clear h hall hn
  have hmm := @run_makeMap Tryz.prog
  go_enter Tryz.func116, Tryz.ntmps116
  go_wp2_with fail
  clear hmm
  go_loopw [9] (fun i wr => ∃ (k : Nat) (f : Int → Value), k ≤ rs.length ∧ i = .int .i64 k ∧ Near w wr (2 * k) w.heap.size w.heap.size f (nb (rs.take k))) (fun i _ => rs.length - (intOf i).toNat)
  case atStart => exact ⟨0, fun _ => .slice none 0 0, Nat.zero_le _, rfl, HM.out, Nbs.start _ _ _ _, (by repeat (first | assumption | exact Below.refl _ _ | (refine below_chain ?_ (by assumption) (by first | omega | (simp <;> omega) | simp)) | (refine Below.alloc ?_ (by first | omega | (simp <;> omega) | simp) _) | (apply below_drewN) | (apply below_drew) | (refine Below.setCell ?_ (by first | omega | (simp <;> omega) | simp) _)))⟩
  case round =>
    clear HM
    obtain ⟨k, f, hk, rfl, hne⟩ := hrel
    have HN := Lib.hid hne
    have hbr := hne.below
    have hbs := hbr.size
    have hBl := hne.map.lt
    clear hne
    by_cases hlt : k < rs.length
    · obtain ⟨D, o, r, rfl, hr, hD, e0, e1, e2, e3⟩ := (H.out.below hbr).at hlt
      have HR := Lib.hid hr
      clear hr
      go_upto_region 5 with fail
      obtain ⟨q0, q1, q2, q3, q4⟩ : 0 ≤ r.f ∧ r.f < n ∧ 0 ≤ r.t ∧ r.t < n ∧ r.f ≠ r.t := by
        obtain ⟨a1, a2, a3, a4, a5, _⟩ := rOk_true (HA.out _ _ HR.out)
        exact ⟨a1, a2, a3, a4, a5⟩
      have hwf := wf_node q0 (by omega : r.f < 100)
      have hwt := wf_node q2 (by omega : r.t < 100)
      have ql := nb_len (rs.take k)
      have hkl : (rs.take k).length ≤ 12 := by simp; omega
      have W5 : Hid (Below w.heap.size w (wr.alloc (.cells #[.int .i64 r.f, .int .i64 r.t, .int .i64 r.s, .int .i64 r.g] 42)) ∧ (wr.alloc (.cells #[.int .i64 r.f, .int .i64 r.t, .int .i64 r.s, .int .i64 r.g] 42)).cell? ⟨wr.heap.size, 0, none⟩ = some (.int .i64 r.f) ∧ (wr.alloc (.cells #[.int .i64 r.f, .int .i64 r.t, .int .i64 r.s, .int .i64 r.g] 42)).cell? ⟨wr.heap.size, 1, none⟩ = some (.int .i64 r.t) ∧ wr.heap.size < (wr.alloc (.cells #[.int .i64 r.f, .int .i64 r.t, .int .i64 r.s, .int .i64 r.g] 42)).heap.size ∧
          Nbs 3 (wr.alloc (.cells #[.int .i64 r.f, .int .i64 r.t, .int .i64 r.s, .int .i64 r.g] 42)) w.heap.size wr.heap.size f (nb (rs.take k)) ∧ MapV Tryz.prog 3 (wr.alloc (.cells #[.int .i64 r.f, .int .i64 r.t, .int .i64 r.s, .int .i64 r.g] 42)) w.heap.size (2 * k) (.slice none 0 0) f) :=
        Lib.hid ⟨hbr.alloc hbs _, by simp, by simp, by simp, (HN.out.nbs.fresh (Nat.le_refl _)).alloc _, HN.out.map.alloc _⟩
      obtain ⟨b5, hbb⟩ : ∃ b5, b5 = wr.heap.size := ⟨_, rfl⟩
      have hBb : w.heap.size < b5 := by omega
      rw [← hbb] at W5 ⊢
      clear hbb
      generalize wr.alloc (.cells #[.int .i64 r.f, .int .i64 r.t, .int .i64 r.s, .int .i64 r.g] 42) = w5 at W5 ⊢
      clear e0 e1 e2 e3 hbr hbs hBl HN hD
      have qlf := ql r.f
      have qlt := ql r.t
      refine wp_region_inv (by kernel_rfl) (by kernel_rfl) (fun L fr wx => ∃ (u0 u1 u2 u3 u4 u5 u6 u7 u8 u9 u10 : Value), fr = ⟨#[Value.slice (some { block := D, off := o }) rs.length c, undef, Value.map none, Value.map (some w.heap.size), undef, Value.pointer (some { block := b5, off := 0 }), Value.map (some w.heap.size), Value.slice (some { block := D, off := o }) rs.length c, Value.int IntKind.i64 ↑rs.length, Value.int IntKind.i64 ↑k, Value.bool true, Value.pointer (some { block := D, off := o + k * 4 }), Value.agg #[Value.int IntKind.i64 r.f, Value.int IntKind.i64 r.t, Value.int IntKind.i64 r.s, Value.int IntKind.i64 r.g], u0, u1, u2, u3, u4, u5, u6, u7, u8, u9, u10, u24, u25, u26, u27, u28, u29, u30, u31, u32, u33, u34, u35, undef], []⟩ ∧ (Below w.heap.size w wx ∧ wx.cell? ⟨b5, 0, none⟩ = some (.int .i64 r.f) ∧ wx.cell? ⟨b5, 1, none⟩ = some (.int .i64 r.t) ∧ b5 < wx.heap.size) ∧ (L.getD 0 true = true → u0 = .map (some w.heap.size)) ∧ (L.getD 1 true = true → u1 = .pointer (some ⟨b5, 0, none⟩)) ∧ (L.getD 2 true = true → u2 = .int .i64 r.f) ∧ (L.getD 3 true = true → u3 = .map (some w.heap.size)) ∧ (L.getD 4 true = true → u4 = .pointer (some ⟨b5, 0, none⟩)) ∧ (L.getD 5 true = true → u5 = .int .i64 r.f) ∧ (L.getD 6 true = true → u6 = f r.f) ∧ (L.getD 7 true = true → u7 = .pointer (some ⟨b5, 1, none⟩)) ∧ (L.getD 8 true = true → u8 = .int .i64 r.t) ∧ (L.getD 9 true = true → ∃ b, u9 = .slice (some ⟨b, 0, none⟩) 1 1 ∧ (L.getD 10 true = false → wx.cell? ⟨b, 0, none⟩ = some (.int .i64 r.t))) ∧ (L.getD 10 true = false → Nbs 3 wx w.heap.size b5 f (nb (rs.take k))) ∧ (L.getD 10 true = true → Nbs 3 wx w.heap.size b5 (upd f r.f u10) (upd (nb (rs.take k)) r.f ((nb (rs.take k)) r.f ++ [r.t]))) ∧ (L.getD 11 true = false → MapV Tryz.prog 3 wx w.heap.size (2 * k) (.slice none 0 0) f) ∧ (L.getD 11 true = true → (∀ j, j < 11 → L.getD j true = true) ∧ MapV Tryz.prog 3 wx w.heap.size (2 * k + 1) (.slice none 0 0) (upd f r.f u10))) ?_ ?_ ?_
      · refine ⟨_, _, _, _, _, _, _, _, _, _, _, rfl, ⟨below_drew W5.out.1, W5.out.2.1, W5.out.2.2.1, W5.out.2.2.2.1⟩, ?_⟩
        refine ⟨?_, ?_, ?_, ?_, ?_, ?_, ?_, ?_, ?_, ?_, fun _ => (W5.out.2.2.2.2.1).drew, fun h => absurd h (by decide), fun _ => W5.out.2.2.2.2.2, fun h => absurd h (by decide)⟩ <;> (intro h; exact absurd h (by decide))
      · intro L a' wx i o hI ho hun hdep
        obtain ⟨u0, u1, u2, u3, u4, u5, u6, u7, u8, u9, u10, rfl, ⟨hB, c0, c1, hb5⟩, h0, h1, h2, h3, h4, h5, h6, h7, h8, h9, n0, n1, m0, m1⟩ := hI
        have hi : i < 12 := (Array.getElem?_eq_some_iff.1 ho).1
        have hi' : i = 0 ∨ i = 1 ∨ i = 2 ∨ i = 3 ∨ i = 4 ∨ i = 5 ∨ i = 6 ∨ i = 7 ∨ i = 8 ∨ i = 9 ∨ i = 10 ∨ i = 11 := by omega
        clear hi
        rcases hi' with rfl | rfl | rfl | rfl | rfl | rfl | rfl | rfl | rfl | rfl | rfl | rfl
        · obtain rfl := Option.some.inj ho
          refine wpOp_step rfl (fun K hK => ?_)
          go_simp
          refine hK _ _ ?_
          refine ⟨_, u1, u2, u3, u4, u5, u6, u7, u8, u9, u10, rfl, ⟨hB, c0, c1, hb5⟩, (fun _ => rfl), (fun h => h1 (kp h (by decide : (0 : Nat) ≠ 1))), (fun h => h2 (kp h (by decide : (0 : Nat) ≠ 2))), (fun h => h3 (kp h (by decide : (0 : Nat) ≠ 3))), (fun h => h4 (kp h (by decide : (0 : Nat) ≠ 4))), (fun h => h5 (kp h (by decide : (0 : Nat) ≠ 5))), (fun h => h6 (kp h (by decide : (0 : Nat) ≠ 6))), (fun h => h7 (kp h (by decide : (0 : Nat) ≠ 7))), (fun h => h8 (kp h (by decide : (0 : Nat) ≠ 8))), (fun h => let ⟨b, e, hb⟩ := h9 (kp h (by decide : (0 : Nat) ≠ 9)); ⟨b, e, fun h' => hb (kpf h' (by decide : (0 : Nat) ≠ 10))⟩), (fun h => n0 (kpf h (by decide : (0 : Nat) ≠ 10))), (fun h => n1 (kp h (by decide : (0 : Nat) ≠ 10))), (fun h => m0 (kpf h (by decide : (0 : Nat) ≠ 11))), (fun h => absurd ((m1 (kp h (by decide : (0 : Nat) ≠ 11))).1 0 (by decide)) (by rw [hun]; decide))⟩
        · obtain rfl := Option.some.inj ho
          refine wpOp_step rfl (fun K hK => ?_)
          go_simp
          refine hK _ _ ?_
          refine ⟨u0, _, u2, u3, u4, u5, u6, u7, u8, u9, u10, rfl, ⟨hB, c0, c1, hb5⟩, (fun h => h0 (kp h (by decide : (1 : Nat) ≠ 0))), (fun _ => rfl), (fun h => h2 (kp h (by decide : (1 : Nat) ≠ 2))), (fun h => h3 (kp h (by decide : (1 : Nat) ≠ 3))), (fun h => h4 (kp h (by decide : (1 : Nat) ≠ 4))), (fun h => h5 (kp h (by decide : (1 : Nat) ≠ 5))), (fun h => h6 (kp h (by decide : (1 : Nat) ≠ 6))), (fun h => h7 (kp h (by decide : (1 : Nat) ≠ 7))), (fun h => h8 (kp h (by decide : (1 : Nat) ≠ 8))), (fun h => let ⟨b, e, hb⟩ := h9 (kp h (by decide : (1 : Nat) ≠ 9)); ⟨b, e, fun h' => hb (kpf h' (by decide : (1 : Nat) ≠ 10))⟩), (fun h => n0 (kpf h (by decide : (1 : Nat) ≠ 10))), (fun h => n1 (kp h (by decide : (1 : Nat) ≠ 10))), (fun h => m0 (kpf h (by decide : (1 : Nat) ≠ 11))), (fun h => absurd ((m1 (kp h (by decide : (1 : Nat) ≠ 11))).1 1 (by decide)) (by rw [hun]; decide))⟩
        · obtain rfl := Option.some.inj ho
          have D1 := tf (hdep ⟨1, .data⟩ (by simp) rfl)
          obtain rfl := h1 D1
          refine wpOp_step rfl (fun K hK => ?_)
          go_simp
          refine hK _ _ ?_
          refine ⟨u0, _, _, u3, u4, u5, u6, u7, u8, u9, u10, rfl, ⟨hB, c0, c1, hb5⟩, (fun h => h0 (kp h (by decide : (2 : Nat) ≠ 0))), (fun _ => rfl), (fun _ => rfl), (fun h => h3 (kp h (by decide : (2 : Nat) ≠ 3))), (fun h => h4 (kp h (by decide : (2 : Nat) ≠ 4))), (fun h => h5 (kp h (by decide : (2 : Nat) ≠ 5))), (fun h => h6 (kp h (by decide : (2 : Nat) ≠ 6))), (fun h => h7 (kp h (by decide : (2 : Nat) ≠ 7))), (fun h => h8 (kp h (by decide : (2 : Nat) ≠ 8))), (fun h => let ⟨b, e, hb⟩ := h9 (kp h (by decide : (2 : Nat) ≠ 9)); ⟨b, e, fun h' => hb (kpf h' (by decide : (2 : Nat) ≠ 10))⟩), (fun h => n0 (kpf h (by decide : (2 : Nat) ≠ 10))), (fun h => n1 (kp h (by decide : (2 : Nat) ≠ 10))), (fun h => m0 (kpf h (by decide : (2 : Nat) ≠ 11))), (fun h => absurd ((m1 (kp h (by decide : (2 : Nat) ≠ 11))).1 2 (by decide)) (by rw [hun]; decide))⟩
        · obtain rfl := Option.some.inj ho
          refine wpOp_step rfl (fun K hK => ?_)
          go_simp
          refine hK _ _ ?_
          refine ⟨u0, u1, u2, _, u4, u5, u6, u7, u8, u9, u10, rfl, ⟨hB, c0, c1, hb5⟩, (fun h => h0 (kp h (by decide : (3 : Nat) ≠ 0))), (fun h => h1 (kp h (by decide : (3 : Nat) ≠ 1))), (fun h => h2 (kp h (by decide : (3 : Nat) ≠ 2))), (fun _ => rfl), (fun h => h4 (kp h (by decide : (3 : Nat) ≠ 4))), (fun h => h5 (kp h (by decide : (3 : Nat) ≠ 5))), (fun h => h6 (kp h (by decide : (3 : Nat) ≠ 6))), (fun h => h7 (kp h (by decide : (3 : Nat) ≠ 7))), (fun h => h8 (kp h (by decide : (3 : Nat) ≠ 8))), (fun h => let ⟨b, e, hb⟩ := h9 (kp h (by decide : (3 : Nat) ≠ 9)); ⟨b, e, fun h' => hb (kpf h' (by decide : (3 : Nat) ≠ 10))⟩), (fun h => n0 (kpf h (by decide : (3 : Nat) ≠ 10))), (fun h => n1 (kp h (by decide : (3 : Nat) ≠ 10))), (fun h => m0 (kpf h (by decide : (3 : Nat) ≠ 11))), (fun h => absurd ((m1 (kp h (by decide : (3 : Nat) ≠ 11))).1 3 (by decide)) (by rw [hun]; decide))⟩
        · obtain rfl := Option.some.inj ho
          refine wpOp_step rfl (fun K hK => ?_)
          go_simp
          refine hK _ _ ?_
          refine ⟨u0, u1, u2, u3, _, u5, u6, u7, u8, u9, u10, rfl, ⟨hB, c0, c1, hb5⟩, (fun h => h0 (kp h (by decide : (4 : Nat) ≠ 0))), (fun h => h1 (kp h (by decide : (4 : Nat) ≠ 1))), (fun h => h2 (kp h (by decide : (4 : Nat) ≠ 2))), (fun h => h3 (kp h (by decide : (4 : Nat) ≠ 3))), (fun _ => rfl), (fun h => h5 (kp h (by decide : (4 : Nat) ≠ 5))), (fun h => h6 (kp h (by decide : (4 : Nat) ≠ 6))), (fun h => h7 (kp h (by decide : (4 : Nat) ≠ 7))), (fun h => h8 (kp h (by decide : (4 : Nat) ≠ 8))), (fun h => let ⟨b, e, hb⟩ := h9 (kp h (by decide : (4 : Nat) ≠ 9)); ⟨b, e, fun h' => hb (kpf h' (by decide : (4 : Nat) ≠ 10))⟩), (fun h => n0 (kpf h (by decide : (4 : Nat) ≠ 10))), (fun h => n1 (kp h (by decide : (4 : Nat) ≠ 10))), (fun h => m0 (kpf h (by decide : (4 : Nat) ≠ 11))), (fun h => absurd ((m1 (kp h (by decide : (4 : Nat) ≠ 11))).1 4 (by decide)) (by rw [hun]; decide))⟩
        · obtain rfl := Option.some.inj ho
          have D4 := tf (hdep ⟨4, .data⟩ (by simp) rfl)
          obtain rfl := h4 D4
          refine wpOp_step rfl (fun K hK => ?_)
          go_simp
          refine hK _ _ ?_
          refine ⟨u0, u1, u2, u3, _, _, u6, u7, u8, u9, u10, rfl, ⟨hB, c0, c1, hb5⟩, (fun h => h0 (kp h (by decide : (5 : Nat) ≠ 0))), (fun h => h1 (kp h (by decide : (5 : Nat) ≠ 1))), (fun h => h2 (kp h (by decide : (5 : Nat) ≠ 2))), (fun h => h3 (kp h (by decide : (5 : Nat) ≠ 3))), (fun _ => rfl), (fun _ => rfl), (fun h => h6 (kp h (by decide : (5 : Nat) ≠ 6))), (fun h => h7 (kp h (by decide : (5 : Nat) ≠ 7))), (fun h => h8 (kp h (by decide : (5 : Nat) ≠ 8))), (fun h => let ⟨b, e, hb⟩ := h9 (kp h (by decide : (5 : Nat) ≠ 9)); ⟨b, e, fun h' => hb (kpf h' (by decide : (5 : Nat) ≠ 10))⟩), (fun h => n0 (kpf h (by decide : (5 : Nat) ≠ 10))), (fun h => n1 (kp h (by decide : (5 : Nat) ≠ 10))), (fun h => m0 (kpf h (by decide : (5 : Nat) ≠ 11))), (fun h => absurd ((m1 (kp h (by decide : (5 : Nat) ≠ 11))).1 5 (by decide)) (by rw [hun]; decide))⟩
        · obtain rfl := Option.some.inj ho
          have D3 := tf (hdep ⟨3, .data⟩ (by simp) rfl)
          have D5 := tf (hdep ⟨5, .data⟩ (by simp) rfl)
          obtain rfl := h3 D3
          obtain rfl := h5 D5
          have hF : L.getD 11 true = false := by
            cases hL : L.getD 11 true with
            | false => rfl
            | true => have := (m1 hL).1 6 (by decide); rw [hun] at this; cases this
          have hlk := (m0 hF).lookup keyInt Tryz.underlying3 Tryz.underlying148 (zeroInts wx) hwf
          refine wpOp_step rfl (fun K hK => ?_)
          go_simp
          refine hK _ _ ?_
          refine ⟨u0, u1, u2, _, u4, _, _, u7, u8, u9, u10, rfl, ⟨hB, c0, c1, hb5⟩, (fun h => h0 (kp h (by decide : (6 : Nat) ≠ 0))), (fun h => h1 (kp h (by decide : (6 : Nat) ≠ 1))), (fun h => h2 (kp h (by decide : (6 : Nat) ≠ 2))), (fun _ => rfl), (fun h => h4 (kp h (by decide : (6 : Nat) ≠ 4))), (fun _ => rfl), (fun _ => rfl), (fun h => h7 (kp h (by decide : (6 : Nat) ≠ 7))), (fun h => h8 (kp h (by decide : (6 : Nat) ≠ 8))), (fun h => let ⟨b, e, hb⟩ := h9 (kp h (by decide : (6 : Nat) ≠ 9)); ⟨b, e, fun h' => hb (kpf h' (by decide : (6 : Nat) ≠ 10))⟩), (fun h => n0 (kpf h (by decide : (6 : Nat) ≠ 10))), (fun h => n1 (kp h (by decide : (6 : Nat) ≠ 10))), (fun h => m0 (kpf h (by decide : (6 : Nat) ≠ 11))), (fun h => absurd ((m1 (kp h (by decide : (6 : Nat) ≠ 11))).1 6 (by decide)) (by rw [hun]; decide))⟩
        · obtain rfl := Option.some.inj ho
          refine wpOp_step rfl (fun K hK => ?_)
          go_simp
          refine hK _ _ ?_
          refine ⟨u0, u1, u2, u3, u4, u5, u6, _, u8, u9, u10, rfl, ⟨hB, c0, c1, hb5⟩, (fun h => h0 (kp h (by decide : (7 : Nat) ≠ 0))), (fun h => h1 (kp h (by decide : (7 : Nat) ≠ 1))), (fun h => h2 (kp h (by decide : (7 : Nat) ≠ 2))), (fun h => h3 (kp h (by decide : (7 : Nat) ≠ 3))), (fun h => h4 (kp h (by decide : (7 : Nat) ≠ 4))), (fun h => h5 (kp h (by decide : (7 : Nat) ≠ 5))), (fun h => h6 (kp h (by decide : (7 : Nat) ≠ 6))), (fun _ => rfl), (fun h => h8 (kp h (by decide : (7 : Nat) ≠ 8))), (fun h => let ⟨b, e, hb⟩ := h9 (kp h (by decide : (7 : Nat) ≠ 9)); ⟨b, e, fun h' => hb (kpf h' (by decide : (7 : Nat) ≠ 10))⟩), (fun h => n0 (kpf h (by decide : (7 : Nat) ≠ 10))), (fun h => n1 (kp h (by decide : (7 : Nat) ≠ 10))), (fun h => m0 (kpf h (by decide : (7 : Nat) ≠ 11))), (fun h => absurd ((m1 (kp h (by decide : (7 : Nat) ≠ 11))).1 7 (by decide)) (by rw [hun]; decide))⟩
        · obtain rfl := Option.some.inj ho
          have D7 := tf (hdep ⟨7, .data⟩ (by simp) rfl)
          obtain rfl := h7 D7
          refine wpOp_step rfl (fun K hK => ?_)
          go_simp
          refine hK _ _ ?_
          refine ⟨u0, u1, u2, u3, u4, u5, u6, _, _, u9, u10, rfl, ⟨hB, c0, c1, hb5⟩, (fun h => h0 (kp h (by decide : (8 : Nat) ≠ 0))), (fun h => h1 (kp h (by decide : (8 : Nat) ≠ 1))), (fun h => h2 (kp h (by decide : (8 : Nat) ≠ 2))), (fun h => h3 (kp h (by decide : (8 : Nat) ≠ 3))), (fun h => h4 (kp h (by decide : (8 : Nat) ≠ 4))), (fun h => h5 (kp h (by decide : (8 : Nat) ≠ 5))), (fun h => h6 (kp h (by decide : (8 : Nat) ≠ 6))), (fun _ => rfl), (fun _ => rfl), (fun h => let ⟨b, e, hb⟩ := h9 (kp h (by decide : (8 : Nat) ≠ 9)); ⟨b, e, fun h' => hb (kpf h' (by decide : (8 : Nat) ≠ 10))⟩), (fun h => n0 (kpf h (by decide : (8 : Nat) ≠ 10))), (fun h => n1 (kp h (by decide : (8 : Nat) ≠ 10))), (fun h => m0 (kpf h (by decide : (8 : Nat) ≠ 11))), (fun h => absurd ((m1 (kp h (by decide : (8 : Nat) ≠ 11))).1 8 (by decide)) (by rw [hun]; decide))⟩
        · obtain rfl := Option.some.inj ho
          have D8 := tf (hdep ⟨8, .data⟩ (by simp) rfl)
          obtain rfl := h8 D8
          refine wpOp_step rfl (fun K hK => ?_)
          go_simp
          refine hK _ _ ?_
          refine ⟨u0, u1, u2, u3, u4, u5, u6, u7, _, _, u10, rfl, ⟨hB.alloc hB.size _, cell_alloc_keep _ c0, cell_alloc_keep _ c1, by simp; omega⟩, (fun h => h0 (kp h (by decide : (9 : Nat) ≠ 0))), (fun h => h1 (kp h (by decide : (9 : Nat) ≠ 1))), (fun h => h2 (kp h (by decide : (9 : Nat) ≠ 2))), (fun h => h3 (kp h (by decide : (9 : Nat) ≠ 3))), (fun h => h4 (kp h (by decide : (9 : Nat) ≠ 4))), (fun h => h5 (kp h (by decide : (9 : Nat) ≠ 5))), (fun h => h6 (kp h (by decide : (9 : Nat) ≠ 6))), (fun h => h7 (kp h (by decide : (9 : Nat) ≠ 7))), (fun _ => rfl), (fun _ => ⟨wx.heap.size, rfl, fun _ => by simp⟩), (fun h => (n0 (kpf h (by decide : (9 : Nat) ≠ 10))).alloc _), (fun h => (n1 (kp h (by decide : (9 : Nat) ≠ 10))).alloc _), (fun h => (m0 (kpf h (by decide : (9 : Nat) ≠ 11))).alloc _), (fun h => absurd ((m1 (kp h (by decide : (9 : Nat) ≠ 11))).1 9 (by decide)) (by rw [hun]; decide))⟩
        · obtain rfl := Option.some.inj ho
          have D6 := tf (hdep ⟨6, .data⟩ (by simp) rfl)
          have D9 := tf (hdep ⟨9, .data⟩ (by simp) rfl)
          obtain rfl := h6 D6
          obtain ⟨b, rfl, hcb⟩ := h9 D9
          have hcb' := hcb hun
          have hmb := (n0 hun).append (ty := 30) Tryz.underlying30 info_int r.f r.t (by first | assumption | omega) hcb' (by omega) hb5
          obtain ⟨v', w', hrun, hN', hg⟩ := hmb
          refine wpOp_append rfl rfl _ _ 30 rfl rfl rfl hrun ?_
          refine ⟨u0, u1, u2, u3, u4, u5, _, u7, u8, _, _, rfl, ⟨?_, ?_, ?_, Nat.lt_of_lt_of_le hb5 hg.size⟩, (fun h => h0 (kp h (by decide : (10 : Nat) ≠ 0))), (fun h => h1 (kp h (by decide : (10 : Nat) ≠ 1))), (fun h => h2 (kp h (by decide : (10 : Nat) ≠ 2))), (fun h => h3 (kp h (by decide : (10 : Nat) ≠ 3))), (fun h => h4 (kp h (by decide : (10 : Nat) ≠ 4))), (fun h => h5 (kp h (by decide : (10 : Nat) ≠ 5))), (fun _ => rfl), (fun h => h7 (kp h (by decide : (10 : Nat) ≠ 7))), (fun h => h8 (kp h (by decide : (10 : Nat) ≠ 8))), (fun _ => ⟨b, rfl, fun h => absurd (getD_set_self L 10) (by rw [h]; decide)⟩), (fun h => absurd (getD_set_self L 10) (by rw [h]; decide)), (fun _ => hN'), (fun h => (m0 (kpf h (by decide : (10 : Nat) ≠ 11))).kept hg ?_), (fun h => absurd ((m1 (kp h (by decide : (10 : Nat) ≠ 11))).1 10 (by decide)) (by rw [hun]; decide))⟩
          · exact below_own hB hg (fun g e => by have := ((n0 hun).row r.f).lt g e; omega)
          · exact hg.cell (a := ⟨b5, 0, none⟩) c0 (fun e => (n0 hun).not r.f e.symm)
          · exact hg.cell (a := ⟨b5, 1, none⟩) c1 (fun e => (n0 hun).not r.f e.symm)
          · intro e; have := ((n0 hun).row r.f).lt _ e.symm; omega
        · obtain rfl := Option.some.inj ho
          have D0 := tf (hdep ⟨0, .data⟩ (by simp) rfl)
          have D2 := tf (hdep ⟨2, .data⟩ (by simp) rfl)
          have D10 := tf (hdep ⟨10, .data⟩ (by simp) rfl)
          obtain rfl := h0 D0
          obtain rfl := h2 D2
          have hF : L.getD 11 true = false := hun
          obtain ⟨w', hrun, hM', hg⟩ := (m0 hF).update keyInt Tryz.underlying3 Tryz.underlying148 (by unfold maxLen; omega) hwf u10
          refine wpOp_step rfl (fun K hK => ?_)
          go_simp
          refine hK _ _ ?_
          refine ⟨_, u1, _, u3, u4, u5, u6, u7, u8, u9, u10, rfl, ⟨?_, ?_, ?_, Nat.lt_of_lt_of_le hb5 hg.size⟩, (fun _ => rfl), (fun h => h1 (kp h (by decide : (11 : Nat) ≠ 1))), (fun _ => rfl), (fun h => h3 (kp h (by decide : (11 : Nat) ≠ 3))), (fun h => h4 (kp h (by decide : (11 : Nat) ≠ 4))), (fun h => h5 (kp h (by decide : (11 : Nat) ≠ 5))), (fun h => h6 (kp h (by decide : (11 : Nat) ≠ 6))), (fun h => h7 (kp h (by decide : (11 : Nat) ≠ 7))), (fun h => h8 (kp h (by decide : (11 : Nat) ≠ 8))), (fun h => let ⟨b, e, hb⟩ := h9 (kp h (by decide : (11 : Nat) ≠ 9)); ⟨b, e, fun h' => absurd D10 (by rw [(kpf h' (by decide : (11 : Nat) ≠ 10))]; decide)⟩), (fun h => absurd D10 (by rw [(kpf h (by decide : (11 : Nat) ≠ 10))]; decide)), (fun _ => (n1 D10).map hg), (fun h => absurd (getD_set_self L 11) (by rw [h]; decide)), (fun _ => ⟨?_, hM'⟩)⟩
          · exact below_own hB hg (fun g e => by simp at e; omega)
          · exact hg.cell (a := ⟨b5, 0, none⟩) c0 (by simp; omega)
          · exact hg.cell (a := ⟨b5, 1, none⟩) c1 (by simp; omega)
          · intro j hj
            rw [getD_set_ne true (by omega)]
            have hj' : j = 0 ∨ j = 1 ∨ j = 2 ∨ j = 3 ∨ j = 4 ∨ j = 5 ∨ j = 6 ∨ j = 7 ∨ j = 8 ∨ j = 9 ∨ j = 10 := by omega
            rcases hj' with rfl | rfl | rfl | rfl | rfl | rfl | rfl | rfl | rfl | rfl | rfl
            · exact tf (hdep ⟨0, .phase⟩ (by simp) rfl)
            · exact tf (hdep ⟨1, .phase⟩ (by simp) rfl)
            · exact tf (hdep ⟨2, .phase⟩ (by simp) rfl)
            · exact tf (hdep ⟨3, .phase⟩ (by simp) rfl)
            · exact tf (hdep ⟨4, .phase⟩ (by simp) rfl)
            · exact tf (hdep ⟨5, .phase⟩ (by simp) rfl)
            · exact tf (hdep ⟨6, .phase⟩ (by simp) rfl)
            · exact tf (hdep ⟨7, .phase⟩ (by simp) rfl)
            · exact tf (hdep ⟨8, .phase⟩ (by simp) rfl)
            · exact tf (hdep ⟨9, .phase⟩ (by simp) rfl)
            · exact tf (hdep ⟨10, .phase⟩ (by simp) rfl)
      · intro L a' wx hI hall
        obtain ⟨u0, u1, u2, u3, u4, u5, u6, u7, u8, u9, u10, rfl, ⟨hB, c0, c1, hb5⟩, h0, h1, h2, h3, h4, h5, h6, h7, h8, h9, n0, n1, m0, m1⟩ := hI
        have N1 := n1 (hall 10 (by decide))
        have M1 := (m1 (hall 11 (by decide))).2
        clear h0 h1 h2 h3 h4 h5 h6 h7 h8 h9 n0 n1 m0 m1 hall
        obtain ⟨z0, z1, z2, z3, z4, z5, z6, z7, z8, z9, z10, e⟩ : ∃ z0 z1 z2 z3 z4 z5 z6 z7 z8 z9 z10 : Value, z0 = u0 ∧ z1 = u1 ∧ z2 = u2 ∧ z3 = u3 ∧ z4 = u4 ∧ z5 = u5 ∧ z6 = u6 ∧ z7 = u7 ∧ z8 = u8 ∧ z9 = u9 ∧ z10 = u10 := ⟨_, _, _, _, _, _, _, _, _, _, _, rfl, rfl, rfl, rfl, rfl, rfl, rfl, rfl, rfl, rfl, rfl⟩
        obtain ⟨rfl, rfl, rfl, rfl, rfl, rfl, rfl, rfl, rfl, rfl, rfl⟩ := e
        have W6 : Hid (Below w.heap.size w wx ∧ wx.cell? ⟨b5, 0, none⟩ = some (.int .i64 r.f) ∧ wx.cell? ⟨b5, 1, none⟩ = some (.int .i64 r.t) ∧ b5 < wx.heap.size ∧ Nbs 3 wx w.heap.size b5 (upd f r.f z10) (upd (nb (rs.take k)) r.f (nb (rs.take k) r.f ++ [r.t])) ∧ MapV Tryz.prog 3 wx w.heap.size (2 * k + 1) (.slice none 0 0) (upd f r.f z10)) := Lib.hid ⟨hB, c0, c1, hb5, N1, M1⟩
        clear hB c0 c1 hb5 N1 M1 W5
        generalize hf' : upd f r.f z10 = f' at W6
        generalize hq' : upd (nb (rs.take k)) r.f (nb (rs.take k) r.f ++ [r.t]) = q' at W6
        have hql : (q' r.t).length ≤ 1000000 := by rw [← hq', upd_other _ _ (Ne.symm q4)]; omega
        have HQ := Lib.hid (And.intro hf' hq')
        clear hf' hq' ql
        dsimp only
        go_upto_region 6 with fail
        refine wp_region_inv (by kernel_rfl) (by kernel_rfl) (fun L fr wx => ∃ (u0 u1 u2 u3 u4 u5 u6 u7 u8 u9 u10 : Value), fr = ⟨#[Value.slice (some { block := D, off := o }) rs.length c, undef, Value.map none, Value.map (some w.heap.size), undef, Value.pointer (some { block := b5, off := 0 }), Value.map (some w.heap.size), Value.slice (some { block := D, off := o }) rs.length c, Value.int IntKind.i64 ↑rs.length, Value.int IntKind.i64 ↑k, Value.bool true, Value.pointer (some { block := D, off := o + k * 4 }), Value.agg #[Value.int IntKind.i64 r.f, Value.int IntKind.i64 r.t, Value.int IntKind.i64 r.s, Value.int IntKind.i64 r.g], z0, z1, z2, z3, z4, z5, z6, z7, z8, z9, z10, u0, u1, u2, u3, u4, u5, u6, u7, u8, u9, u10, u35, undef], []⟩ ∧ (Below w.heap.size w wx ∧ wx.cell? ⟨b5, 0, none⟩ = some (.int .i64 r.f) ∧ wx.cell? ⟨b5, 1, none⟩ = some (.int .i64 r.t) ∧ b5 < wx.heap.size) ∧ (L.getD 0 true = true → u0 = .map (some w.heap.size)) ∧ (L.getD 1 true = true → u1 = .pointer (some ⟨b5, 1, none⟩)) ∧ (L.getD 2 true = true → u2 = .int .i64 r.t) ∧ (L.getD 3 true = true → u3 = .map (some w.heap.size)) ∧ (L.getD 4 true = true → u4 = .pointer (some ⟨b5, 1, none⟩)) ∧ (L.getD 5 true = true → u5 = .int .i64 r.t) ∧ (L.getD 6 true = true → u6 = f' r.t) ∧ (L.getD 7 true = true → u7 = .pointer (some ⟨b5, 0, none⟩)) ∧ (L.getD 8 true = true → u8 = .int .i64 r.f) ∧ (L.getD 9 true = true → ∃ b, u9 = .slice (some ⟨b, 0, none⟩) 1 1 ∧ (L.getD 10 true = false → wx.cell? ⟨b, 0, none⟩ = some (.int .i64 r.f))) ∧ (L.getD 10 true = false → Nbs 3 wx w.heap.size b5 f' q') ∧ (L.getD 10 true = true → Nbs 3 wx w.heap.size b5 (upd f' r.t u10) (upd q' r.t (q' r.t ++ [r.f]))) ∧ (L.getD 11 true = false → MapV Tryz.prog 3 wx w.heap.size (2 * k + 1) (.slice none 0 0) f') ∧ (L.getD 11 true = true → (∀ j, j < 11 → L.getD j true = true) ∧ MapV Tryz.prog 3 wx w.heap.size (2 * k + 1 + 1) (.slice none 0 0) (upd f' r.t u10))) ?_ ?_ ?_
        · refine ⟨_, _, _, _, _, _, _, _, _, _, _, rfl, ⟨below_drew W6.out.1, W6.out.2.1, W6.out.2.2.1, W6.out.2.2.2.1⟩, ?_⟩
          refine ⟨?_, ?_, ?_, ?_, ?_, ?_, ?_, ?_, ?_, ?_, fun _ => (W6.out.2.2.2.2.1).drew, fun h => absurd h (by decide), fun _ => W6.out.2.2.2.2.2, fun h => absurd h (by decide)⟩ <;> (intro h; exact absurd h (by decide))
        · intro L a' wx i o hI ho hun hdep
          obtain ⟨u0, u1, u2, u3, u4, u5, u6, u7, u8, u9, u10, rfl, ⟨hB, c0, c1, hb5⟩, h0, h1, h2, h3, h4, h5, h6, h7, h8, h9, n0, n1, m0, m1⟩ := hI
          have hi : i < 12 := (Array.getElem?_eq_some_iff.1 ho).1
          have hi' : i = 0 ∨ i = 1 ∨ i = 2 ∨ i = 3 ∨ i = 4 ∨ i = 5 ∨ i = 6 ∨ i = 7 ∨ i = 8 ∨ i = 9 ∨ i = 10 ∨ i = 11 := by omega
          clear hi
          rcases hi' with rfl | rfl | rfl | rfl | rfl | rfl | rfl | rfl | rfl | rfl | rfl | rfl
          · obtain rfl := Option.some.inj ho
            refine wpOp_step rfl (fun K hK => ?_)
            go_simp
            refine hK _ _ ?_
            refine ⟨_, u1, u2, u3, u4, u5, u6, u7, u8, u9, u10, rfl, ⟨hB, c0, c1, hb5⟩, (fun _ => rfl), (fun h => h1 (kp h (by decide : (0 : Nat) ≠ 1))), (fun h => h2 (kp h (by decide : (0 : Nat) ≠ 2))), (fun h => h3 (kp h (by decide : (0 : Nat) ≠ 3))), (fun h => h4 (kp h (by decide : (0 : Nat) ≠ 4))), (fun h => h5 (kp h (by decide : (0 : Nat) ≠ 5))), (fun h => h6 (kp h (by decide : (0 : Nat) ≠ 6))), (fun h => h7 (kp h (by decide : (0 : Nat) ≠ 7))), (fun h => h8 (kp h (by decide : (0 : Nat) ≠ 8))), (fun h => let ⟨b, e, hb⟩ := h9 (kp h (by decide : (0 : Nat) ≠ 9)); ⟨b, e, fun h' => hb (kpf h' (by decide : (0 : Nat) ≠ 10))⟩), (fun h => n0 (kpf h (by decide : (0 : Nat) ≠ 10))), (fun h => n1 (kp h (by decide : (0 : Nat) ≠ 10))), (fun h => m0 (kpf h (by decide : (0 : Nat) ≠ 11))), (fun h => absurd ((m1 (kp h (by decide : (0 : Nat) ≠ 11))).1 0 (by decide)) (by rw [hun]; decide))⟩
          · obtain rfl := Option.some.inj ho
            refine wpOp_step rfl (fun K hK => ?_)
            go_simp
            refine hK _ _ ?_
            refine ⟨u0, _, u2, u3, u4, u5, u6, u7, u8, u9, u10, rfl, ⟨hB, c0, c1, hb5⟩, (fun h => h0 (kp h (by decide : (1 : Nat) ≠ 0))), (fun _ => rfl), (fun h => h2 (kp h (by decide : (1 : Nat) ≠ 2))), (fun h => h3 (kp h (by decide : (1 : Nat) ≠ 3))), (fun h => h4 (kp h (by decide : (1 : Nat) ≠ 4))), (fun h => h5 (kp h (by decide : (1 : Nat) ≠ 5))), (fun h => h6 (kp h (by decide : (1 : Nat) ≠ 6))), (fun h => h7 (kp h (by decide : (1 : Nat) ≠ 7))), (fun h => h8 (kp h (by decide : (1 : Nat) ≠ 8))), (fun h => let ⟨b, e, hb⟩ := h9 (kp h (by decide : (1 : Nat) ≠ 9)); ⟨b, e, fun h' => hb (kpf h' (by decide : (1 : Nat) ≠ 10))⟩), (fun h => n0 (kpf h (by decide : (1 : Nat) ≠ 10))), (fun h => n1 (kp h (by decide : (1 : Nat) ≠ 10))), (fun h => m0 (kpf h (by decide : (1 : Nat) ≠ 11))), (fun h => absurd ((m1 (kp h (by decide : (1 : Nat) ≠ 11))).1 1 (by decide)) (by rw [hun]; decide))⟩
          · obtain rfl := Option.some.inj ho
            have D1 := tf (hdep ⟨1, .data⟩ (by simp) rfl)
            obtain rfl := h1 D1
            refine wpOp_step rfl (fun K hK => ?_)
            go_simp
            refine hK _ _ ?_
            refine ⟨u0, _, _, u3, u4, u5, u6, u7, u8, u9, u10, rfl, ⟨hB, c0, c1, hb5⟩, (fun h => h0 (kp h (by decide : (2 : Nat) ≠ 0))), (fun _ => rfl), (fun _ => rfl), (fun h => h3 (kp h (by decide : (2 : Nat) ≠ 3))), (fun h => h4 (kp h (by decide : (2 : Nat) ≠ 4))), (fun h => h5 (kp h (by decide : (2 : Nat) ≠ 5))), (fun h => h6 (kp h (by decide : (2 : Nat) ≠ 6))), (fun h => h7 (kp h (by decide : (2 : Nat) ≠ 7))), (fun h => h8 (kp h (by decide : (2 : Nat) ≠ 8))), (fun h => let ⟨b, e, hb⟩ := h9 (kp h (by decide : (2 : Nat) ≠ 9)); ⟨b, e, fun h' => hb (kpf h' (by decide : (2 : Nat) ≠ 10))⟩), (fun h => n0 (kpf h (by decide : (2 : Nat) ≠ 10))), (fun h => n1 (kp h (by decide : (2 : Nat) ≠ 10))), (fun h => m0 (kpf h (by decide : (2 : Nat) ≠ 11))), (fun h => absurd ((m1 (kp h (by decide : (2 : Nat) ≠ 11))).1 2 (by decide)) (by rw [hun]; decide))⟩
          · obtain rfl := Option.some.inj ho
            refine wpOp_step rfl (fun K hK => ?_)
            go_simp
            refine hK _ _ ?_
            refine ⟨u0, u1, u2, _, u4, u5, u6, u7, u8, u9, u10, rfl, ⟨hB, c0, c1, hb5⟩, (fun h => h0 (kp h (by decide : (3 : Nat) ≠ 0))), (fun h => h1 (kp h (by decide : (3 : Nat) ≠ 1))), (fun h => h2 (kp h (by decide : (3 : Nat) ≠ 2))), (fun _ => rfl), (fun h => h4 (kp h (by decide : (3 : Nat) ≠ 4))), (fun h => h5 (kp h (by decide : (3 : Nat) ≠ 5))), (fun h => h6 (kp h (by decide : (3 : Nat) ≠ 6))), (fun h => h7 (kp h (by decide : (3 : Nat) ≠ 7))), (fun h => h8 (kp h (by decide : (3 : Nat) ≠ 8))), (fun h => let ⟨b, e, hb⟩ := h9 (kp h (by decide : (3 : Nat) ≠ 9)); ⟨b, e, fun h' => hb (kpf h' (by decide : (3 : Nat) ≠ 10))⟩), (fun h => n0 (kpf h (by decide : (3 : Nat) ≠ 10))), (fun h => n1 (kp h (by decide : (3 : Nat) ≠ 10))), (fun h => m0 (kpf h (by decide : (3 : Nat) ≠ 11))), (fun h => absurd ((m1 (kp h (by decide : (3 : Nat) ≠ 11))).1 3 (by decide)) (by rw [hun]; decide))⟩
          · obtain rfl := Option.some.inj ho
            refine wpOp_step rfl (fun K hK => ?_)
            go_simp
            refine hK _ _ ?_
            refine ⟨u0, u1, u2, u3, _, u5, u6, u7, u8, u9, u10, rfl, ⟨hB, c0, c1, hb5⟩, (fun h => h0 (kp h (by decide : (4 : Nat) ≠ 0))), (fun h => h1 (kp h (by decide : (4 : Nat) ≠ 1))), (fun h => h2 (kp h (by decide : (4 : Nat) ≠ 2))), (fun h => h3 (kp h (by decide : (4 : Nat) ≠ 3))), (fun _ => rfl), (fun h => h5 (kp h (by decide : (4 : Nat) ≠ 5))), (fun h => h6 (kp h (by decide : (4 : Nat) ≠ 6))), (fun h => h7 (kp h (by decide : (4 : Nat) ≠ 7))), (fun h => h8 (kp h (by decide : (4 : Nat) ≠ 8))), (fun h => let ⟨b, e, hb⟩ := h9 (kp h (by decide : (4 : Nat) ≠ 9)); ⟨b, e, fun h' => hb (kpf h' (by decide : (4 : Nat) ≠ 10))⟩), (fun h => n0 (kpf h (by decide : (4 : Nat) ≠ 10))), (fun h => n1 (kp h (by decide : (4 : Nat) ≠ 10))), (fun h => m0 (kpf h (by decide : (4 : Nat) ≠ 11))), (fun h => absurd ((m1 (kp h (by decide : (4 : Nat) ≠ 11))).1 4 (by decide)) (by rw [hun]; decide))⟩
          · obtain rfl := Option.some.inj ho
            have D4 := tf (hdep ⟨4, .data⟩ (by simp) rfl)
            obtain rfl := h4 D4
            refine wpOp_step rfl (fun K hK => ?_)
            go_simp
            refine hK _ _ ?_
            refine ⟨u0, u1, u2, u3, _, _, u6, u7, u8, u9, u10, rfl, ⟨hB, c0, c1, hb5⟩, (fun h => h0 (kp h (by decide : (5 : Nat) ≠ 0))), (fun h => h1 (kp h (by decide : (5 : Nat) ≠ 1))), (fun h => h2 (kp h (by decide : (5 : Nat) ≠ 2))), (fun h => h3 (kp h (by decide : (5 : Nat) ≠ 3))), (fun _ => rfl), (fun _ => rfl), (fun h => h6 (kp h (by decide : (5 : Nat) ≠ 6))), (fun h => h7 (kp h (by decide : (5 : Nat) ≠ 7))), (fun h => h8 (kp h (by decide : (5 : Nat) ≠ 8))), (fun h => let ⟨b, e, hb⟩ := h9 (kp h (by decide : (5 : Nat) ≠ 9)); ⟨b, e, fun h' => hb (kpf h' (by decide : (5 : Nat) ≠ 10))⟩), (fun h => n0 (kpf h (by decide : (5 : Nat) ≠ 10))), (fun h => n1 (kp h (by decide : (5 : Nat) ≠ 10))), (fun h => m0 (kpf h (by decide : (5 : Nat) ≠ 11))), (fun h => absurd ((m1 (kp h (by decide : (5 : Nat) ≠ 11))).1 5 (by decide)) (by rw [hun]; decide))⟩
          · obtain rfl := Option.some.inj ho
            have D3 := tf (hdep ⟨3, .data⟩ (by simp) rfl)
            have D5 := tf (hdep ⟨5, .data⟩ (by simp) rfl)
            obtain rfl := h3 D3
            obtain rfl := h5 D5
            have hF : L.getD 11 true = false := by
              cases hL : L.getD 11 true with
              | false => rfl
              | true => have := (m1 hL).1 6 (by decide); rw [hun] at this; cases this
            have hlk := (m0 hF).lookup keyInt Tryz.underlying3 Tryz.underlying148 (zeroInts wx) hwt
            refine wpOp_step rfl (fun K hK => ?_)
            go_simp
            refine hK _ _ ?_
            refine ⟨u0, u1, u2, _, u4, _, _, u7, u8, u9, u10, rfl, ⟨hB, c0, c1, hb5⟩, (fun h => h0 (kp h (by decide : (6 : Nat) ≠ 0))), (fun h => h1 (kp h (by decide : (6 : Nat) ≠ 1))), (fun h => h2 (kp h (by decide : (6 : Nat) ≠ 2))), (fun _ => rfl), (fun h => h4 (kp h (by decide : (6 : Nat) ≠ 4))), (fun _ => rfl), (fun _ => rfl), (fun h => h7 (kp h (by decide : (6 : Nat) ≠ 7))), (fun h => h8 (kp h (by decide : (6 : Nat) ≠ 8))), (fun h => let ⟨b, e, hb⟩ := h9 (kp h (by decide : (6 : Nat) ≠ 9)); ⟨b, e, fun h' => hb (kpf h' (by decide : (6 : Nat) ≠ 10))⟩), (fun h => n0 (kpf h (by decide : (6 : Nat) ≠ 10))), (fun h => n1 (kp h (by decide : (6 : Nat) ≠ 10))), (fun h => m0 (kpf h (by decide : (6 : Nat) ≠ 11))), (fun h => absurd ((m1 (kp h (by decide : (6 : Nat) ≠ 11))).1 6 (by decide)) (by rw [hun]; decide))⟩
          · obtain rfl := Option.some.inj ho
            refine wpOp_step rfl (fun K hK => ?_)
            go_simp
            refine hK _ _ ?_
            refine ⟨u0, u1, u2, u3, u4, u5, u6, _, u8, u9, u10, rfl, ⟨hB, c0, c1, hb5⟩, (fun h => h0 (kp h (by decide : (7 : Nat) ≠ 0))), (fun h => h1 (kp h (by decide : (7 : Nat) ≠ 1))), (fun h => h2 (kp h (by decide : (7 : Nat) ≠ 2))), (fun h => h3 (kp h (by decide : (7 : Nat) ≠ 3))), (fun h => h4 (kp h (by decide : (7 : Nat) ≠ 4))), (fun h => h5 (kp h (by decide : (7 : Nat) ≠ 5))), (fun h => h6 (kp h (by decide : (7 : Nat) ≠ 6))), (fun _ => rfl), (fun h => h8 (kp h (by decide : (7 : Nat) ≠ 8))), (fun h => let ⟨b, e, hb⟩ := h9 (kp h (by decide : (7 : Nat) ≠ 9)); ⟨b, e, fun h' => hb (kpf h' (by decide : (7 : Nat) ≠ 10))⟩), (fun h => n0 (kpf h (by decide : (7 : Nat) ≠ 10))), (fun h => n1 (kp h (by decide : (7 : Nat) ≠ 10))), (fun h => m0 (kpf h (by decide : (7 : Nat) ≠ 11))), (fun h => absurd ((m1 (kp h (by decide : (7 : Nat) ≠ 11))).1 7 (by decide)) (by rw [hun]; decide))⟩
          · obtain rfl := Option.some.inj ho
            have D7 := tf (hdep ⟨7, .data⟩ (by simp) rfl)
            obtain rfl := h7 D7
            refine wpOp_step rfl (fun K hK => ?_)
            go_simp
            refine hK _ _ ?_
            refine ⟨u0, u1, u2, u3, u4, u5, u6, _, _, u9, u10, rfl, ⟨hB, c0, c1, hb5⟩, (fun h => h0 (kp h (by decide : (8 : Nat) ≠ 0))), (fun h => h1 (kp h (by decide : (8 : Nat) ≠ 1))), (fun h => h2 (kp h (by decide : (8 : Nat) ≠ 2))), (fun h => h3 (kp h (by decide : (8 : Nat) ≠ 3))), (fun h => h4 (kp h (by decide : (8 : Nat) ≠ 4))), (fun h => h5 (kp h (by decide : (8 : Nat) ≠ 5))), (fun h => h6 (kp h (by decide : (8 : Nat) ≠ 6))), (fun _ => rfl), (fun _ => rfl), (fun h => let ⟨b, e, hb⟩ := h9 (kp h (by decide : (8 : Nat) ≠ 9)); ⟨b, e, fun h' => hb (kpf h' (by decide : (8 : Nat) ≠ 10))⟩), (fun h => n0 (kpf h (by decide : (8 : Nat) ≠ 10))), (fun h => n1 (kp h (by decide : (8 : Nat) ≠ 10))), (fun h => m0 (kpf h (by decide : (8 : Nat) ≠ 11))), (fun h => absurd ((m1 (kp h (by decide : (8 : Nat) ≠ 11))).1 8 (by decide)) (by rw [hun]; decide))⟩
          · obtain rfl := Option.some.inj ho
            have D8 := tf (hdep ⟨8, .data⟩ (by simp) rfl)
            obtain rfl := h8 D8
            refine wpOp_step rfl (fun K hK => ?_)
            go_simp
            refine hK _ _ ?_
            refine ⟨u0, u1, u2, u3, u4, u5, u6, u7, _, _, u10, rfl, ⟨hB.alloc hB.size _, cell_alloc_keep _ c0, cell_alloc_keep _ c1, by simp; omega⟩, (fun h => h0 (kp h (by decide : (9 : Nat) ≠ 0))), (fun h => h1 (kp h (by decide : (9 : Nat) ≠ 1))), (fun h => h2 (kp h (by decide : (9 : Nat) ≠ 2))), (fun h => h3 (kp h (by decide : (9 : Nat) ≠ 3))), (fun h => h4 (kp h (by decide : (9 : Nat) ≠ 4))), (fun h => h5 (kp h (by decide : (9 : Nat) ≠ 5))), (fun h => h6 (kp h (by decide : (9 : Nat) ≠ 6))), (fun h => h7 (kp h (by decide : (9 : Nat) ≠ 7))), (fun _ => rfl), (fun _ => ⟨wx.heap.size, rfl, fun _ => by simp⟩), (fun h => (n0 (kpf h (by decide : (9 : Nat) ≠ 10))).alloc _), (fun h => (n1 (kp h (by decide : (9 : Nat) ≠ 10))).alloc _), (fun h => (m0 (kpf h (by decide : (9 : Nat) ≠ 11))).alloc _), (fun h => absurd ((m1 (kp h (by decide : (9 : Nat) ≠ 11))).1 9 (by decide)) (by rw [hun]; decide))⟩
          · obtain rfl := Option.some.inj ho
            have D6 := tf (hdep ⟨6, .data⟩ (by simp) rfl)
            have D9 := tf (hdep ⟨9, .data⟩ (by simp) rfl)
            obtain rfl := h6 D6
            obtain ⟨b, rfl, hcb⟩ := h9 D9
            have hcb' := hcb hun
            have hmb := (n0 hun).append (ty := 30) Tryz.underlying30 info_int r.t r.f (by first | assumption | omega) hcb' (by omega) hb5
            obtain ⟨v', w', hrun, hN', hg⟩ := hmb
            refine wpOp_append rfl rfl _ _ 30 rfl rfl rfl hrun ?_
            refine ⟨u0, u1, u2, u3, u4, u5, _, u7, u8, _, _, rfl, ⟨?_, ?_, ?_, Nat.lt_of_lt_of_le hb5 hg.size⟩, (fun h => h0 (kp h (by decide : (10 : Nat) ≠ 0))), (fun h => h1 (kp h (by decide : (10 : Nat) ≠ 1))), (fun h => h2 (kp h (by decide : (10 : Nat) ≠ 2))), (fun h => h3 (kp h (by decide : (10 : Nat) ≠ 3))), (fun h => h4 (kp h (by decide : (10 : Nat) ≠ 4))), (fun h => h5 (kp h (by decide : (10 : Nat) ≠ 5))), (fun _ => rfl), (fun h => h7 (kp h (by decide : (10 : Nat) ≠ 7))), (fun h => h8 (kp h (by decide : (10 : Nat) ≠ 8))), (fun _ => ⟨b, rfl, fun h => absurd (getD_set_self L 10) (by rw [h]; decide)⟩), (fun h => absurd (getD_set_self L 10) (by rw [h]; decide)), (fun _ => hN'), (fun h => (m0 (kpf h (by decide : (10 : Nat) ≠ 11))).kept hg ?_), (fun h => absurd ((m1 (kp h (by decide : (10 : Nat) ≠ 11))).1 10 (by decide)) (by rw [hun]; decide))⟩
            · exact below_own hB hg (fun g e => by have := ((n0 hun).row r.t).lt g e; omega)
            · exact hg.cell (a := ⟨b5, 0, none⟩) c0 (fun e => (n0 hun).not r.t e.symm)
            · exact hg.cell (a := ⟨b5, 1, none⟩) c1 (fun e => (n0 hun).not r.t e.symm)
            · intro e; have := ((n0 hun).row r.t).lt _ e.symm; omega
          · obtain rfl := Option.some.inj ho
            have D0 := tf (hdep ⟨0, .data⟩ (by simp) rfl)
            have D2 := tf (hdep ⟨2, .data⟩ (by simp) rfl)
            have D10 := tf (hdep ⟨10, .data⟩ (by simp) rfl)
            obtain rfl := h0 D0
            obtain rfl := h2 D2
            have hF : L.getD 11 true = false := hun
            obtain ⟨w', hrun, hM', hg⟩ := (m0 hF).update keyInt Tryz.underlying3 Tryz.underlying148 (by unfold maxLen; omega) hwt u10
            refine wpOp_step rfl (fun K hK => ?_)
            go_simp
            refine hK _ _ ?_
            refine ⟨_, u1, _, u3, u4, u5, u6, u7, u8, u9, u10, rfl, ⟨?_, ?_, ?_, Nat.lt_of_lt_of_le hb5 hg.size⟩, (fun _ => rfl), (fun h => h1 (kp h (by decide : (11 : Nat) ≠ 1))), (fun _ => rfl), (fun h => h3 (kp h (by decide : (11 : Nat) ≠ 3))), (fun h => h4 (kp h (by decide : (11 : Nat) ≠ 4))), (fun h => h5 (kp h (by decide : (11 : Nat) ≠ 5))), (fun h => h6 (kp h (by decide : (11 : Nat) ≠ 6))), (fun h => h7 (kp h (by decide : (11 : Nat) ≠ 7))), (fun h => h8 (kp h (by decide : (11 : Nat) ≠ 8))), (fun h => let ⟨b, e, hb⟩ := h9 (kp h (by decide : (11 : Nat) ≠ 9)); ⟨b, e, fun h' => absurd D10 (by rw [(kpf h' (by decide : (11 : Nat) ≠ 10))]; decide)⟩), (fun h => absurd D10 (by rw [(kpf h (by decide : (11 : Nat) ≠ 10))]; decide)), (fun _ => (n1 D10).map hg), (fun h => absurd (getD_set_self L 11) (by rw [h]; decide)), (fun _ => ⟨?_, hM'⟩)⟩
            · exact below_own hB hg (fun g e => by simp at e; omega)
            · exact hg.cell (a := ⟨b5, 0, none⟩) c0 (by simp; omega)
            · exact hg.cell (a := ⟨b5, 1, none⟩) c1 (by simp; omega)
            · intro j hj
              rw [getD_set_ne true (by omega)]
              have hj' : j = 0 ∨ j = 1 ∨ j = 2 ∨ j = 3 ∨ j = 4 ∨ j = 5 ∨ j = 6 ∨ j = 7 ∨ j = 8 ∨ j = 9 ∨ j = 10 := by omega
              rcases hj' with rfl | rfl | rfl | rfl | rfl | rfl | rfl | rfl | rfl | rfl | rfl
              · exact tf (hdep ⟨0, .phase⟩ (by simp) rfl)
              · exact tf (hdep ⟨1, .phase⟩ (by simp) rfl)
              · exact tf (hdep ⟨2, .phase⟩ (by simp) rfl)
              · exact tf (hdep ⟨3, .phase⟩ (by simp) rfl)
              · exact tf (hdep ⟨4, .phase⟩ (by simp) rfl)
              · exact tf (hdep ⟨5, .phase⟩ (by simp) rfl)
              · exact tf (hdep ⟨6, .phase⟩ (by simp) rfl)
              · exact tf (hdep ⟨7, .phase⟩ (by simp) rfl)
              · exact tf (hdep ⟨8, .phase⟩ (by simp) rfl)
              · exact tf (hdep ⟨9, .phase⟩ (by simp) rfl)
              · exact tf (hdep ⟨10, .phase⟩ (by simp) rfl)
        · intro L a' wx hI hall
          obtain ⟨u0, u1, u2, u3, u4, u5, u6, u7, u8, u9, u10, rfl, ⟨hB, c0, c1, hb5⟩, h0, h1, h2, h3, h4, h5, h6, h7, h8, h9, n0, n1, m0, m1⟩ := hI
          have N1 := n1 (hall 10 (by decide))
          have M1 := (m1 (hall 11 (by decide))).2
          clear h0 h1 h2 h3 h4 h5 h6 h7 h8 h9 n0 n1 m0 m1 hall
          dsimp only
          have HF := Lib.hid (And.intro hB (And.intro N1 M1))
          clear hB c0 c1 hb5 N1 M1 W6
          go_wp2_with fail
          go_roundw
          case rel =>
            obtain ⟨hB, N1, M1⟩ := HF.out
            obtain ⟨hf', hq'⟩ := HQ.out
            have eq : upd q' r.t (q' r.t ++ [r.f]) = nb (rs.take (k + 1)) := by
              funext x
              rw [nb_take HR.out x, ← hq']
              by_cases e1 : x = r.f
              · subst e1
                simp [upd, q4]
              · by_cases e2 : x = r.t
                · subst e2
                  simp [upd, e1]
                · simp [upd, e1, e2]
            rw [eq] at N1
            exact ⟨k + 1, _, by omega, by go_num, by rw [show 2 * (k + 1) = 2 * k + 1 + 1 by omega]; exact M1, N1.atMap, hB⟩
          case measure => simp [intOf]; omega
    · have e : k = rs.length := by omega
      subst e
      have HN' := HN.out
      rw [List.take_length] at HN'
      have HN2 := Lib.hid HN'
      clear HN HN'
      go_wp2_with fail
      go_ret
      exact ⟨f, rfl, HN2.out⟩
end Go.Proofs.YtoaomjchaihkaaaGreatDoor
namespace Go.Proofs.YtoaomjchaihkaaaGreatDoor
open Go.RowKit
set_option linter.unusedVariables false

def inV (F : List Int) (i : Int) : Value := .bool (decide (i ∈ F))
theorem inV_add (F : List Int) (y : Int) : upd (inV F) y (.bool true) = inV (F ++ [y]) := by
  funext i
  by_cases e : i = y
  · subst e; simp [upd, inV]
  · simp [upd, inV, e]
theorem inV_one (y : Int) : upd (fun _ => Value.bool false) y (.bool true) = inV [y] := by
  funext i
  by_cases e : i = y
  · subst e; simp [upd, inV]
  · simp [upd, inV, e]

set_option maxHeartbeats 4000000 in
theorem linked_is (n : Int) (rs : List Rn) (B cnt : Nat) (f : Int → Value) (node : Int) (w w0 : World) (hn : nOk n rs = true) (h : Near w0 w cnt B B f (nb rs)) (h0 : 0 ≤ node) (h1 : node < n) :
    Calls Tryz.prog 118 #[.map (some B), .int .i64 node] w fun e w' => ∃ F v, e = .returned v ∧ NewInts w F v w' ∧ Cls n rs node F ∧ F.length ≤ 6 := by
  obtain ⟨hn2, hn6, hl12, hall⟩ := nOk_true hn
  have hok : Hid (∀ r ∈ rs, 0 ≤ r.f ∧ r.f < n ∧ 0 ≤ r.t ∧ r.t < n) := Lib.hid (fun r hr => by
    obtain ⟨i, hi⟩ := List.getElem?_of_mem hr
    obtain ⟨a1, a2, a3, a4, _⟩ := rOk_true (hall i r hi)
    exact ⟨a1, a2, a3, a4⟩)
  have HN := Lib.hid h
  have hBl := h.map.lt
  have hwn := wf_node h0 (by omega : node < 100)
  have HF := Lib.hid (Own.lit w 3 [node] (by simp [maxLen]))
  have HB := Lib.hid (Bfs.first (rs := rs) h0 h1)
  obtain ⟨w2, hins, hM2, hg2⟩ := (MapV.made (w.alloc (.cells #[.int .i64 node] 3)) Tryz.prog 3 (.bool false)).update (t := 159) (e := 4) keyInt Tryz.underlying3 Tryz.underlying159 (by unfold maxLen; omega) hwn (.bool true)
  rw [inV_one] at hM2
  have hs2 := hg2.size
  simp at hins hs2
  have H2 := Lib.hid (And.intro hM2 hg2)
  have hmm := @run_makeMap Tryz.prog
  clear h hall hn hM2 hg2
  go_enter Tryz.func118, Tryz.ntmps118
  go_wp2_with fail
  clear hmm hins
  have hB2 : Below w.heap.size w w2 := below_own (((Below.refl _ _).alloc (Nat.le_refl _) _).alloc (by simp) _) H2.out.2 (fun g e => by simp at e; omega)
  have hO2 := Lib.hid ((HF.out.alloc (.map #[] 0)).grown H2.out.2 (by simp))
  clear HF
  go_loopw [5, 7] (fun v i wr => ∃ (a g cap : Nat) (F : List Int), i = .int .i64 a ∧ v = .slice (some ⟨g, 0, none⟩) F.length cap ∧ a ≤ F.length ∧ (w.heap.size ≤ g ∧ g ≠ w.heap.size + 1) ∧ Own wr g 3 1 F.length cap F ∧ MapV Tryz.prog 3 wr (w.heap.size + 1) F.length (.bool false) (inV F) ∧ Bfs n rs node a 0 F ∧ Below w.heap.size w wr) (fun _ i _ => 7 - (intOf i).toNat)
  case atStart => exact ⟨0, _, _, [node], rfl, rfl, by simp, ⟨Nat.le_refl _, by omega⟩, hO2.out, by simpa using H2.out.1, HB.out, hB2⟩
  case round =>
    clear HB hO2 H2 hB2 hs2
    obtain ⟨a, g, cap, F, rfl, rfl, ha, ⟨hg, hgS⟩, how, hmv, hbf, hbr⟩ := hrel
    have hbs := hbr.size
    have hlo := how.lt
    have hFl : F.length ≤ 6 := by have := hbf.len (by omega); omega
    have HO := Lib.hid (And.intro how (And.intro hmv hbf))
    by_cases hlt : a < F.length
    · obtain ⟨x, hx⟩ : ∃ x, F[a]? = some x := ⟨_, List.getElem?_eq_getElem hlt⟩
      have e0 := how.cells hx
      obtain ⟨hx0, hx1⟩ := hbf.rng x (List.mem_of_getElem? hx)
      have hwx := wf_node hx0 (by omega : x < 100)
      have hlk := (HN.out.map.below (hbr.mono (Nat.le_refl _))).lookup (t := 148) keyInt Tryz.underlying3 Tryz.underlying148 (zeroInts wr) hwx
      obtain ⟨q, qc, hv, hq⟩ := HN.out.nbs.ints x
      rw [hv] at hlk
      have hql := nb_len rs x
      have HX := Lib.hid (And.intro hx hq)
      clear how hmv hbf hx hv hq
      go_wp2_with fail
      go_loopw [5, 28] (fun v i wr => ∃ (k g cap : Nat) (F' : List Int), i = .int .i64 k ∧ v = .slice (some ⟨g, 0, none⟩) F'.length cap ∧ k ≤ (nb rs x).length ∧ (w.heap.size ≤ g ∧ g ≠ w.heap.size + 1) ∧ F'[a]? = some x ∧ Own wr g 3 1 F'.length cap F' ∧ MapV Tryz.prog 3 wr (w.heap.size + 1) F'.length (.bool false) (inV F') ∧ Bfs n rs node a k F' ∧ Below w.heap.size w wr) (fun _ i _ => (nb rs x).length - (intOf i).toNat)
      case atStart => exact ⟨0, g, cap, F, rfl, rfl, Nat.zero_le _, ⟨hg, hgS⟩, HX.out.1, HO.out.1, HO.out.2.1, HO.out.2.2, hbr⟩
      case round =>
        have HQ := Lib.hid (HX.out.2)
        have ha6 : a < 6 := by omega
        clear HX HO hlk e0 hlo hFl hlt ha
        have HBR := Lib.hid hbr
        clear hbr hbs
        rename World => wq
        obtain ⟨k, g, cap, F', rfl, rfl, hk, ⟨hg, hgS⟩, hx, how, hmv, hbf, hbr⟩ := hrel
        have hbs := hbr.size
        have hlo := how.lt
        have hFl : F'.length ≤ 6 := by have := hbf.len (by omega); omega
        have HO := Lib.hid (And.intro how (And.intro hmv (And.intro hbf hx)))
        by_cases hlt : k < (nb rs x).length
        · obtain ⟨y, hy⟩ : ∃ y, (nb rs x)[k]? = some y := ⟨_, List.getElem?_eq_getElem hlt⟩
          obtain ⟨D, o, y', rfl, hy', hD, e1⟩ := (HQ.out.below hbr).at hlt
          obtain rfl : y = y' := by rw [hy] at hy'; cases hy'; rfl
          clear hy'
          obtain ⟨r, hr, hry⟩ := nb_mem (List.mem_of_getElem? hy)
          have hy0 : 0 ≤ y ∧ y < n := by
            obtain ⟨q0, q1, q2, q3⟩ := hok.out r hr
            rcases hry with ⟨_, rfl⟩ | ⟨_, rfl⟩ <;> exact ⟨by assumption, by assumption⟩
          have hwy := wf_node hy0.1 (by omega : y < 100)
          have hls := hmv.lookup (t := 159) (e := 4) keyInt Tryz.underlying3 Tryz.underlying159 (zeroBool _) hwy
          by_cases hm : y ∈ F'
          · have hin : inV F' y = .bool true := by simp [inV, hm]
            rw [hin] at hls
            have HY := Lib.hid (And.intro hy hm)
            clear how hmv hbf hx hy hm hin hr hry
            go_wp2_with fail
            go_roundw
            case rel => exact ⟨k + 1, g, cap, F', by go_num, rfl, by omega, ⟨hg, hgS⟩, HO.out.2.2.2, HO.out.1, HO.out.2.1, HO.out.2.2.1.seen HO.out.2.2.2 HY.out.1 HY.out.2, hbr⟩
            case measure => simp [intOf]; omega
          · have hin : inV F' y = .bool false := by simp [inV, hm]
            rw [hin] at hls
            obtain ⟨w1, hup, hM1, hg1⟩ := hmv.update (t := 159) (e := 4) keyInt Tryz.underlying3 Tryz.underlying159 (by unfold maxLen; omega) hwy (.bool true)
            rw [inV_add] at hM1
            have hs1 := hg1.size
            have hB1 : Below w.heap.size w w1 := below_own hbr hg1 (fun g e => by simp at e; omega)
            have hO1 := how.grown hg1 hgS
            have hSl := hM1.lt
            have HY := Lib.hid (And.intro hy (And.intro hm (And.intro hM1 (And.intro hB1 hO1))))
            clear how hmv hbf hx hy hm hin hr hry hM1 hg1 hB1 hO1
            go_wp2_with (at_builtin; refine wp_append _ rfl _ _ 30 rfl 3 _ 1 8 Tryz.underlying30 info_int rfl (by decide) (by decide) _ F'.length cap F' rfl (HY.out.2.2.2.2.alloc _) _ _ _ [y] rfl rfl (one_cell _ _ _) (by omega) ?_; intro g' cap' w' hown hgr hloc hsz; have HN := Lib.hid (And.intro hown (And.intro hgr hloc)); clear hown hgr hloc)
            go_roundw
            case rel =>
              obtain ⟨hy, hm, hM1, hB1, hO1⟩ := HY.out
              obtain ⟨hown, hgr, hloc⟩ := HN.out
              have hx := HO.out.2.2.2
              have hlen : (F' ++ [y]).length = F'.length + 1 := by simp
              refine ⟨k + 1, g', cap', F' ++ [y], by go_num, by rw [hlen], by omega, ?_, ?_, ?_, ?_, HO.out.2.2.1.add hok.out hx hy hm, ?_⟩
              · rcases hloc with rfl | rfl
                · exact ⟨hg, hgS⟩
                · simp; omega
              · rw [List.getElem?_append_left (List.getElem?_eq_some_iff.1 hx).1]; exact hx
              · rw [hlen]; exact hown
              · rw [hlen]; exact (hM1.alloc _).kept hgr (by simp; omega)
              · exact below_gr (hB1.alloc hB1.size _) hgr hg (by simp; have := hB1.size; omega)
            case measure => simp [intOf]; omega
        · have e : k = (nb rs x).length := by omega
          subst e
          clear how hmv hbf hx
          go_wp2_with fail
          go_roundw
          case rel => exact ⟨a + 1, g, cap, F', by go_num, rfl, by have := (List.getElem?_eq_some_iff.1 HO.out.2.2.2).1; omega, ⟨hg, hgS⟩, HO.out.1, HO.out.2.1, HO.out.2.2.1.next HO.out.2.2.2 (Nat.le_refl _), hbr⟩
          case measure => simp [intOf]; omega
    · clear how hmv hbf
      go_wp2_with fail
      go_ret
      exact ⟨F, .slice (some ⟨g, 0, none⟩) F.length cap, rfl, ⟨g, cap, rfl, hg, HO.out.1, hbr⟩, HO.out.2.2.cls (by omega), hFl⟩
end Go.Proofs.YtoaomjchaihkaaaGreatDoor
namespace Go.Proofs.YtoaomjchaihkaaaGreatDoor
open Go.RowKit
set_option linter.unusedVariables false

/-- the first k labels are right -/
def labTo (n : Int) (rs : List Rn) (k : Nat) (L : List Int) : Prop := ∀ i : Int, 0 ≤ i → i < k → Lst n rs i (htAt L i)
theorem labTo_succ {n : Int} {rs : List Rn} {k : Nat} {L : List Int} {m : Int} (h : labTo n rs k L) (hk : k < L.length) (hm : Lst n rs k m) : labTo n rs (k + 1) (L.set k m) := fun i h0 h1 => by
  by_cases e : i = k
  · subst e
    have : htAt (L.set k m) k = m := by simp [htAt, hk]
    rw [this]; exact hm
  · have hne : ¬ k = i.toNat := by omega
    have : htAt (L.set k m) i = htAt L i := by simp [htAt, hne]
    rw [this]; exact h i h0 (by omega)

set_option maxHeartbeats 4000000 in
theorem iLinked_yes (N : Nat) (p : Option Addr) (c : Nat) (rs : List Rn) (w : World) (h : Runs w p rs) (hn : nOk N rs = true) :
    Calls Tryz.prog 83 #[.int .i64 N, .slice p rs.length c] w fun e w' => ∃ v, e = .returned v ∧ NewInts w (labs N rs) v w' := by
  have H := Lib.hid h
  obtain ⟨hn2, hn6, hl12, -⟩ := nOk_true hn
  have HK := Lib.hid hn
  have c1 := fun w h => Lib.hid (iValid N p c rs true w h (by omega) hn)
  have c2 := fun w h => Lib.hid (neighbors_is N p c rs w h hn)
  have hm := fun w => made_ints w N (by omega)
  have h0 := fun (w : World) => Lib.hid (Own.made w 3 N 1 (by decide) (by unfold maxLen; omega))
  clear h hn
  go_enter Tryz.func83, Tryz.ntmps83
  go_wp2_with (first | (go_at_call 52; (with_reducible refine ((c1 _ ?_).out).mono ?_); (focus ((exact H.out); done)); rintro e wa ⟨rfl, hb_wa⟩; have hs_wa := hb_wa.size; (try simp at hs_wa)) | (go_at_call 116; (with_reducible refine ((c2 _ ?_).out).mono ?_); (focus (exact H.out.below (by repeat (first | assumption | exact Below.refl _ _ | (refine below_chain ?_ (by assumption) (by first | omega | (simp <;> omega) | simp)) | (refine Below.alloc ?_ (by first | omega | (simp <;> omega) | simp) _) | (apply below_drewN) | (apply below_drew) | (refine Below.setCell ?_ (by first | omega | (simp <;> omega) | simp) _))); done)); rintro e wb ⟨f, rfl, hne⟩; have hb_wb := hne.below; have hs_wb := hb_wb.size; have HN := Lib.hid hne; have hlB := hne.map.lt; clear hne))
  have HO0 := Lib.hid (h0 wb).out
  have hB0 : Below w.heap.size w wb := (by repeat (first | assumption | exact Below.refl _ _ | (refine below_chain ?_ (by assumption) (by first | omega | (simp <;> omega) | simp)) | (refine Below.alloc ?_ (by first | omega | (simp <;> omega) | simp) _) | (apply below_drewN) | (apply below_drew) | (refine Below.setCell ?_ (by first | omega | (simp <;> omega) | simp) _)))
  have hBw : w.heap.size ≤ wb.heap.size := by omega
  clear hm c1 c2 h0 hb_wa hb_wb
  have hB1 : Below wb.heap.size wb (wb.alloc (.cells (madeCells #[.int .i64 0] N) 3)) := (Below.refl _ _).alloc (Nat.le_refl _) _
  go_loopw [18] (fun i wr => ∃ (k : Nat) (L : List Int), k ≤ N ∧ i = .int .i64 k ∧ Own wr wb.heap.size 3 1 N N L ∧ labTo N rs k L ∧ Below wb.heap.size wb wr) (fun i _ => N - (intOf i).toNat)
  case atStart => exact ⟨0, _, Nat.zero_le _, rfl, by simpa using HO0.out, fun i h0 h1 => by omega, hB1⟩
  case round =>
    clear HO0 hB1
    obtain ⟨k, L, hk, rfl, how, hlab, hbr⟩ := hrel
    have hbs := hbr.size
    have hlo := how.lt
    have HO := Lib.hid (And.intro how hlab)
    have hLl := how.len
    have HLl := Lib.hid hLl
    clear hLl
    by_cases hlt : k < N
    · have kl := fun (hk0 : (0 : Int) ≤ k) (hk1 : (k : Int) < N) => Lib.hid (linked_is N rs wa.heap.size (2 * rs.length) f k wr wa HK.out ⟨HN.out.map.below hbr, HN.out.nbs.below hbr, HN.out.below.trans (hbr.mono hs_wb)⟩ hk0 hk1)
      have kl' := kl (by omega) (by omega)
      clear kl how hlab
      go_wp2_with (first | (go_at_call 118; (with_reducible refine (kl'.out).mono ?_); rintro e wl ⟨F, v, rfl, ⟨g, cap, rfl, hg, hown, hbl⟩, hcls, hF6⟩; have hsl := hbl.size; have hOl := HO.out.1.below hbl; have hfl := hOl.frozen k; have hll := hOl.lt; have hcl := hOl.cells (i := k) (z := (L[k]?).getD 0) (by have := HLl.out; rw [List.getElem?_eq_getElem (by omega)]; rfl); have HF := Lib.hid (And.intro hown (And.intro hcls hOl)); clear hown hcls hOl) | (go_at_call 117; (with_reducible refine (min_is _ _ F _ ?_ ?_ ?_).mono ?_); (focus (exact HF.out.1.ints; done)); (focus (exact List.length_pos_of_mem HF.out.2.1.start; done)); (focus (omega; done)); rintro e w' ⟨⟨m, rfl, hm⟩, rfl⟩; have HM := Lib.hid hm; clear hm))
      go_roundw
      case rel =>
        have hLl := HLl.out
        exact ⟨k + 1, L.set k m, by omega, by go_num, HF.out.2.2.set k m (by omega), labTo_succ HO.out.2 (by omega) (HF.out.2.1.lst HM.out.1 HM.out.2), (hbr.trans (hbl.mono hbs)).setCell (Nat.le_refl _) _⟩
      case measure => simp [intOf]; omega
    · have e : k = N := by omega
      subst e
      have hlab2 : Hid (L = labs k rs) := Lib.hid (labs_eq ⟨by have := HLl.out; omega, fun i h0 h1 => hlab i h0 h1⟩)
      clear how hlab
      go_wp2_with fail
      go_ret
      exact ⟨.slice (some ⟨wb.heap.size, 0, none⟩) k k, rfl, wb.heap.size, k, by rw [← hlab2.out]; have := HLl.out; rw [this]; simp, hBw, by rw [← hlab2.out]; have := HLl.out; rw [this, Nat.mul_one]; exact HO.out.1, hB0.trans (hbr.mono hBw)⟩
theorem iLinked_no (n : Int) (p : Option Addr) (c : Nat) (rs : List Rn) (w : World) (h : Runs w p rs) (hl : rs.length ≤ 4000000000000000000) (hn : nOk n rs = false) :
    Calls Tryz.prog 83 #[.int .i64 n, .slice p rs.length c] w fun e w' => (∃ q, e = .returned (.slice q 0 0)) ∧ Below w.heap.size w w' := by
  have H := Lib.hid h
  have c1 := fun w h => Lib.hid (iValid n p c rs false w h hl hn)
  clear h hn
  go_enter Tryz.func83, Tryz.ntmps83
  go_wp2_with ((go_at_call 52; (with_reducible refine ((c1 _ ?_).out).mono ?_); (focus ((exact H.out); done)); rintro e wa ⟨rfl, hb_wa⟩; have hs_wa := hb_wa.size; (try simp at hs_wa)))
  go_ret
  exact ⟨⟨_, rfl⟩, (by repeat (first | assumption | exact Below.refl _ _ | (refine below_chain ?_ (by assumption) (by first | omega | (simp <;> omega) | simp)) | (refine Below.alloc ?_ (by first | omega | (simp <;> omega) | simp) _) | (apply below_drewN) | (apply below_drew) | (refine Below.setCell ?_ (by first | omega | (simp <;> omega) | simp) _)))⟩
end Go.Proofs.YtoaomjchaihkaaaGreatDoor
namespace Go.Proofs.YtoaomjchaihkaaaGreatDoor
open Go.RowKit
set_option linter.unusedVariables false

theorem lab_exists (N : Nat) (rs : List Rn) : ∃ L, IsLab N rs L := by
  have key : ∀ k, k ≤ N → ∃ L : List Int, L.length = k ∧ ∀ i : Nat, i < k → Lst N rs i (htAt L i) := by
    intro k
    induction k with
    | zero => intro _; exact ⟨[], rfl, fun i h => by omega⟩
    | succ k ih =>
      intro hk
      obtain ⟨L, hl, hL⟩ := ih (by omega)
      obtain ⟨m, hm⟩ := Lst.exists N rs (i := (k : Int)) (by omega) (by omega)
      refine ⟨L ++ [m], by simp [hl], fun i hi => ?_⟩
      by_cases e : i = k
      · subst e
        have : htAt (L ++ [m]) i = m := by simp [htAt, ← hl]
        rw [this]; exact hm
      · have hlt : i < L.length := by omega
        have : htAt (L ++ [m]) i = htAt L i := by simp [htAt, List.getElem?_append_left hlt]
        rw [this]; exact hL i (by omega)
  obtain ⟨L, hl, hL⟩ := key N (Nat.le_refl _)
  exact ⟨L, by omega, fun i h0 h1 => by
    have := hL i.toNat (by omega)
    rwa [show ((i.toNat : Nat) : Int) = i by omega] at this⟩
theorem labs_is (N : Nat) (rs : List Rn) : IsLab N rs (labs N rs) := by
  obtain ⟨L, hL⟩ := lab_exists N rs
  rw [← labs_eq hL]; exact hL
theorem labs_len (N : Nat) (rs : List Rn) : (labs N rs).length = N := by have := (labs_is N rs).len; omega
theorem labs_pos {N : Nat} {rs : List Rn} {i : Nat} {z : Int} (h : (labs N rs)[i]? = some z) : 0 ≤ z ∧ z ≤ i := by
  have hlt := (List.getElem?_eq_some_iff.1 h).1
  rw [labs_len] at hlt
  have := (labs_is N rs).lst i (by omega) (by omega)
  rw [htAt_nat h] at this
  exact ⟨this.lo, this.le⟩

noncomputable def nWhole (n : Int) (rs : List Rn) : Bool := nOk n rs && (labs n rs).all (fun z => decide (z = 0))
def roots (L : List Int) : Nat → Nat
  | 0 => 0
  | k + 1 => roots L k + if htAt L k = k then 1 else 0
theorem roots_le (L : List Int) : ∀ k, roots L k ≤ k
  | 0 => Nat.le_refl _
  | k + 1 => by have := roots_le L k; simp only [roots]; split <;> omega
noncomputable def nLoops (n : Int) (rs : List Rn) : Int := if nOk n rs then rs.length - n + roots (labs n rs) n.toNat else -1

theorem all_zero {N : Nat} {rs : List Rn} {m : Int} (hm : m ∈ labs N rs) (hmax : ∀ x ∈ labs N rs, x ≤ m) : (labs N rs).all (fun z => decide (z = 0)) = decide (m = 0) := by
  by_cases h : m = 0
  · rw [decide_eq_true h, List.all_eq_true]
    intro x hx
    obtain ⟨i, hi⟩ := List.getElem?_of_mem hx
    have := labs_pos hi
    have := hmax x hx
    simp; omega
  · rw [decide_eq_false h, Bool.eq_false_iff]
    intro ha
    rw [List.all_eq_true] at ha
    have := ha m hm
    simp at this
    exact h this

set_option maxHeartbeats 1000000 in
theorem iWhole (n : Int) (p : Option Addr) (c : Nat) (rs : List Rn) (b : Bool) (w : World) (h : Runs w p rs) (hl : rs.length ≤ 4000000000000000000) (hb : nWhole n rs = b) :
    Calls Tryz.prog 39 #[.int .i64 n, .slice p rs.length c] w fun e w' => e = .returned (.bool b) ∧ Below w.heap.size w w' := by
  have H := Lib.hid h
  have HB := Lib.hid hb
  clear hb
  by_cases hn : nOk n rs = true
  · obtain ⟨a1, a2, -, -⟩ := nOk_true hn
    obtain ⟨N, rfl⟩ : ∃ N : Nat, n = (N : Int) := ⟨n.toNat, by omega⟩
    have c1 := fun w h => Lib.hid (iLinked_yes N p c rs w h hn)
    have hll := labs_len N rs
    have HZ : Hid (∀ m, m ∈ labs N rs → (∀ x ∈ labs N rs, x ≤ m) → b = decide (m = 0)) := Lib.hid (fun m h1 h2 => by rw [← HB.out, nWhole, hn, all_zero h1 h2]; rfl)
    generalize labs N rs = zs at c1 hll HZ
    have h0 : (0 : Int) < (zs.length : Int) := by omega
    have h6 : zs.length ≤ 1000000 := by omega
    clear h hn hll HB
    go_enter Tryz.func39, Tryz.ntmps39
    go_wp2_with (first | (go_at_call 83; (with_reducible refine ((c1 _ ?_).out).mono ?_); (focus ((exact H.out); done)); rintro e wl ⟨v, rfl, g, cap, rfl, hg, hown, hb_wl⟩; have hs_wl := hb_wl.size; (try simp at hs_wl)) | (go_at_call 84; (with_reducible refine (max_is _ _ zs _ ?_ ?_ h6).mono ?_); (focus (exact hown.ints; done)); (focus (omega; done)); rintro e w' ⟨⟨m, rfl, hm1, hm2⟩, rfl⟩; have hz := HZ.out m hm1 hm2; clear hm1 hm2))
    go_ret
    exact ⟨ret_bool (by rw [hz]; first | rfl | (by_cases e : m = 0 <;> simp [e])), (by repeat (first | assumption | exact Below.refl _ _ | (refine below_chain ?_ (by assumption) (by first | omega | (simp <;> omega) | simp)) | (refine Below.alloc ?_ (by first | omega | (simp <;> omega) | simp) _) | (apply below_drewN) | (apply below_drew) | (refine Below.setCell ?_ (by first | omega | (simp <;> omega) | simp) _)))⟩
  · have hn' : nOk n rs = false := by simpa using hn
    have e : b = false := by rw [← HB.out, nWhole, hn']; rfl
    have c1 := fun w h => Lib.hid (iLinked_no n p c rs w h hl hn')
    subst e
    clear h hn hn' HB
    go_enter Tryz.func39, Tryz.ntmps39
    go_wp2_with ((go_at_call 83; (with_reducible refine ((c1 _ ?_).out).mono ?_); (focus ((exact H.out); done)); rintro e wl ⟨⟨q, rfl⟩, hb_wl⟩; have hs_wl := hb_wl.size; (try simp at hs_wl)))
    go_ret
    exact ⟨rfl, (by repeat (first | assumption | exact Below.refl _ _ | (refine below_chain ?_ (by assumption) (by first | omega | (simp <;> omega) | simp)) | (refine Below.alloc ?_ (by first | omega | (simp <;> omega) | simp) _) | (apply below_drewN) | (apply below_drew) | (refine Below.setCell ?_ (by first | omega | (simp <;> omega) | simp) _)))⟩
set_option maxHeartbeats 1000000 in
theorem sWhole (n : Int) (p : Option Addr) (c : Nat) (rs : List Rn) (b : Bool) (w : World) (h : Runs w p rs) (hl : rs.length ≤ 4000000000000000000) (hb : nWhole n rs = b) :
    Calls Tryz.prog 37 #[.int .i64 n, .slice p rs.length c] w fun e w' => e = .returned (.bool b) ∧ Below w.heap.size w w' := by
  have H := Lib.hid h
  have HB := Lib.hid hb
  clear hb
  by_cases hn : nOk n rs = true
  · obtain ⟨a1, a2, -, -⟩ := nOk_true hn
    obtain ⟨N, rfl⟩ : ∃ N : Nat, n = (N : Int) := ⟨n.toNat, by omega⟩
    have c1 := fun w h => Lib.hid (sLinked_yes N p c rs w h hn)
    have hll := labs_len N rs
    have HZ : Hid (b = (labs N rs).all (fun z => decide (z = 0))) := Lib.hid (by rw [← HB.out, nWhole, hn]; rfl)
    generalize labs N rs = zs at c1 hll HZ
    have h0 : (0 : Int) < (zs.length : Int) := by omega
    have h6 : zs.length ≤ 1000000 := by omega
    clear h hn hll HB
    go_enter Tryz.func37, Tryz.ntmps37
    go_wp2_with ((go_at_call 77; (with_reducible refine ((c1 _ ?_).out).mono ?_); (focus ((exact H.out); done)); rintro e wl ⟨v, rfl, g, cap, rfl, hg, hown, hb_wl⟩; have hs_wl := hb_wl.size; (try simp at hs_wl)))
    clear c1
    have HO := Lib.hid hown
    have hlo := hown.lt
    clear hown
    go_loopw [6] (fun i wr => ∃ k : Nat, k ≤ zs.length ∧ i = .int .i64 k ∧ (∀ (j : Nat) (z : Int), j < k → zs[j]? = some z → z = 0) ∧ Below wl.heap.size wl wr) (fun i _ => zs.length - (intOf i).toNat)
    case atStart => exact ⟨0, Nat.zero_le _, rfl, fun _ _ h => by omega, Below.refl _ _⟩
    case round =>
      obtain ⟨k, hk, rfl, hok, hbr⟩ := hrel
      have hbs := hbr.size
      have HK := Lib.hid hok
      clear hok
      by_cases hlt : k < zs.length
      · obtain ⟨z, hz⟩ : ∃ z, zs[k]? = some z := ⟨_, List.getElem?_eq_getElem hlt⟩
        have e0 := (HO.out.below hbr).cells hz
        have HZ2 := Lib.hid hz
        clear hz
        by_cases hz0 : z = 0
        · have hz' : (z == 0) = true := by simpa using hz0
          have HQ := Lib.hid hz0
          clear hz0
          go_wp2_with fail
          go_roundw
          case rel => exact ⟨k + 1, by omega, by go_num, fun j y hj hy => by
            by_cases e : j = k
            · subst e; rw [HZ2.out] at hy; cases hy; exact HQ.out
            · exact HK.out j y (by omega) hy, (by repeat (first | assumption | exact Below.refl _ _ | (refine below_chain ?_ (by assumption) (by first | omega | (simp <;> omega) | simp)) | (refine Below.alloc ?_ (by first | omega | (simp <;> omega) | simp) _) | (apply below_drewN) | (apply below_drew) | (refine Below.setCell ?_ (by first | omega | (simp <;> omega) | simp) _)))⟩
          case measure => simp [intOf]; omega
        · have hz' : (z == 0) = false := by simpa using hz0
          have e : b = false := by
            rw [HZ.out, Bool.eq_false_iff]; intro ha
            rw [List.all_eq_true] at ha
            have := ha z (List.mem_of_getElem? HZ2.out)
            simp at this; exact hz0 this
          have HE := Lib.hid e
          clear hz0 e
          go_wp2_with fail
          go_ret
          exact ⟨ret_bool HE.out.symm, (by repeat (first | assumption | exact Below.refl _ _ | (refine below_chain ?_ (by assumption) (by first | omega | (simp <;> omega) | simp)) | (refine Below.alloc ?_ (by first | omega | (simp <;> omega) | simp) _) | (apply below_drewN) | (apply below_drew) | (refine Below.setCell ?_ (by first | omega | (simp <;> omega) | simp) _)))⟩
      · have e : b = true := by
          rw [HZ.out, List.all_eq_true]
          intro z hz
          obtain ⟨j, hj⟩ := List.getElem?_of_mem hz
          have := HK.out j z (by have := (List.getElem?_eq_some_iff.1 hj).1; omega) hj
          simpa using this
        have HE := Lib.hid e
        clear e
        go_wp2_with fail
        go_ret
        exact ⟨ret_bool (by rw [HE.out]; simp; omega), (by repeat (first | assumption | exact Below.refl _ _ | (refine below_chain ?_ (by assumption) (by first | omega | (simp <;> omega) | simp)) | (refine Below.alloc ?_ (by first | omega | (simp <;> omega) | simp) _) | (apply below_drewN) | (apply below_drew) | (refine Below.setCell ?_ (by first | omega | (simp <;> omega) | simp) _)))⟩
  · have hn' : nOk n rs = false := by simpa using hn
    have e : b = false := by rw [← HB.out, nWhole, hn']; rfl
    have c1 := fun w h => Lib.hid (sLinked_no n p c rs w h hl hn')
    subst e
    clear h hn hn' HB
    go_enter Tryz.func37, Tryz.ntmps37
    go_wp2_with ((go_at_call 77; (with_reducible refine ((c1 _ ?_).out).mono ?_); (focus ((exact H.out); done)); rintro e wl ⟨⟨q, rfl⟩, hb_wl⟩; have hs_wl := hb_wl.size; (try simp at hs_wl)))
    go_loopw [6] (fun i wr => i = .int .i64 0 ∧ wl = wr) (fun i _ => 0)
    case atStart => exact ⟨rfl, rfl⟩
    case round =>
      obtain ⟨rfl, rfl⟩ := hrel
      go_wp2_with fail
      go_ret
      exact ⟨rfl, (by repeat (first | assumption | exact Below.refl _ _ | (refine below_chain ?_ (by assumption) (by first | omega | (simp <;> omega) | simp)) | (refine Below.alloc ?_ (by first | omega | (simp <;> omega) | simp) _) | (apply below_drewN) | (apply below_drew) | (refine Below.setCell ?_ (by first | omega | (simp <;> omega) | simp) _)))⟩
end Go.Proofs.YtoaomjchaihkaaaGreatDoor
namespace Go.Proofs.YtoaomjchaihkaaaGreatDoor
open Go.RowKit
set_option linter.unusedVariables false

theorem nLoops_yes {N : Nat} {rs : List Rn} (h : nOk N rs = true) : nLoops N rs = (rs.length : Int) - N + roots (labs N rs) N := by
  unfold nLoops; rw [if_pos h]; simp
theorem nLoops_no {n : Int} {rs : List Rn} (h : nOk n rs = false) : nLoops n rs = -1 := by unfold nLoops; simp [h]
theorem roots_hit {L : List Int} {k : Nat} {z : Int} (hz : L[k]? = some z) : roots L (k + 1) = roots L k + if (k : Int) = z then 1 else 0 := by
  simp only [roots, htAt_nat hz]
  by_cases e : (k : Int) = z
  · simp [e]
  · have : ¬ z = (k : Int) := fun e' => e e'.symm
    simp [e, this]

end Go.Proofs.YtoaomjchaihkaaaGreatDoor
namespace Go.Proofs.YtoaomjchaihkaaaGreatDoor
open Go.RowKit
set_option linter.unusedVariables false

def allTo (L : List Int) : Nat → Bool
  | 0 => true
  | k + 1 => allTo L k && decide (htAt L k = 0)
theorem allTo_take (L : List Int) : ∀ k, k ≤ L.length → allTo L k = (L.take k).all (fun z => decide (z = 0))
  | 0, _ => by simp [allTo]
  | k + 1, h => by
    have hk : k < L.length := by omega
    rw [allTo, allTo_take L k (by omega), List.take_add_one, List.getElem?_eq_getElem hk, htAt_nat (List.getElem?_eq_getElem hk), List.all_append]
    simp only [Option.toList, List.all_cons, List.all_nil, Bool.and_true]
theorem allTo_len (L : List Int) : allTo L L.length = L.all (fun z => decide (z = 0)) := by rw [allTo_take L _ (Nat.le_refl _), List.take_length]
/-- what the law asks of the labels -/
structure LabOk (rs : List Rn) (zs : List Int) : Prop where
  node : ∀ i : Nat, i < zs.length → ∃ a : Nat, zs[i]? = some (a : Int) ∧ a ≤ i ∧ zs[a]? = some (a : Int)
  run : ∀ (i : Nat) (r : Rn), rs[i]? = some r → ∃ (a b : Nat) (y : Int), r.f = (a : Int) ∧ r.t = (b : Int) ∧ a < zs.length ∧ b < zs.length ∧ zs[a]? = some y ∧ zs[b]? = some y
theorem lab_ok {N : Nat} {rs : List Rn} (h : nOk N rs = true) : LabOk rs (labs N rs) := by
  have hl := labs_len N rs
  have hL := labs_is N rs
  refine ⟨fun i hi => ?_, fun i r hr => ?_⟩
  · have h1 := hL.lst i (by omega) (by omega)
    have e1 := htAt_get (L := labs N rs) (x := (i : Int)) (by omega) (by omega)
    rw [Int.toNat_natCast] at e1
    obtain ⟨a, ha⟩ : ∃ a : Nat, htAt (labs N rs) i = (a : Int) := ⟨(htAt (labs N rs) i).toNat, by have := h1.lo; omega⟩
    rw [ha] at h1 e1
    have hai := h1.le
    have h2 := hL.lst a (by omega) (by omega)
    have e2 := htAt_get (L := labs N rs) (x := (a : Int)) (by omega) (by omega)
    rw [Int.toNat_natCast] at e2
    have : (a : Int) = htAt (labs N rs) a := Lst.of_same (by omega) (by omega) h1 h2 h1.same.symm
    rw [← this] at e2
    exact ⟨a, e1, by omega, e2⟩
  · obtain ⟨a1, a2, a3, a4, -⟩ := rOk_true ((nOk_true h).2.2.2 i r hr)
    have e1 := htAt_get (L := labs N rs) a1 (by omega)
    have e2 := htAt_get (L := labs N rs) a3 (by omega)
    have : htAt (labs N rs) r.f = htAt (labs N rs) r.t := Lst.of_same a2 a4 (hL.lst _ a1 a2) (hL.lst _ a3 a4) (Same.run (List.mem_of_getElem? hr))
    rw [← this] at e2
    exact ⟨r.f.toNat, r.t.toNat, _, by omega, by omega, by omega, by omega, e1, e2⟩
end Go.Proofs.YtoaomjchaihkaaaGreatDoor
namespace Go.Proofs.YtoaomjchaihkaaaGreatDoor
set_option linter.unusedVariables false

theorem roots_ext {L L' : List Int} : ∀ k : Nat, (∀ i : Nat, i < k → (htAt L i = i ↔ htAt L' i = i)) → roots L k = roots L' k
  | 0, _ => rfl
  | k + 1, h => by
    simp only [roots]
    rw [roots_ext k (fun i hi => h i (by omega))]
    by_cases e : htAt L k = k
    · rw [if_pos e, if_pos ((h k (by omega)).1 e)]
    · rw [if_neg e, if_neg (fun e' => e ((h k (by omega)).2 e'))]
/-- one root less, at c -/
theorem roots_drop {L L' : List Int} (c : Nat) : ∀ k : Nat, (∀ i : Nat, i < k → i ≠ c → (htAt L i = i ↔ htAt L' i = i)) → htAt L c = c → htAt L' c ≠ c → c < k → roots L k = roots L' k + 1
  | 0, _, _, _, h => by omega
  | k + 1, h, h1, h2, hc => by
    simp only [roots]
    by_cases e : k = c
    · subst e
      rw [roots_ext (L := L) (L' := L') k (fun i hi => h i (by omega) (by omega)), if_pos h1, if_neg h2]
    · rw [roots_drop c k (fun i hi hne => h i (by omega) hne) h1 h2 (by omega)]
      by_cases e2 : htAt L k = k
      · rw [if_pos e2, if_pos ((h k (by omega) e).1 e2)]; try omega
      · rw [if_neg e2, if_neg (fun e' => e2 ((h k (by omega) e).2 e'))]; try omega

theorem Same.snoc {rs : List Rn} {r : Rn} {i j : Int} (h : Same (rs ++ [r]) i j) (hr : Same rs r.f r.t) : Same rs i j := fun g hg => h g (fun r' hr' => by
  rcases List.mem_append.1 hr' with h' | h'
  · exact hg r' h'
  · simp at h'; subst h'; exact hr g hg)
theorem htAt_map (L : List Int) (f : Int → Int) {i : Int} (h0 : 0 ≤ i) (h1 : i < L.length) : htAt (L.map f) i = f (htAt L i) := by
  have := htAt_get h0 h1
  show ((L.map f)[i.toNat]?).getD 0 = _
  rw [List.getElem?_map, this]
  rfl
section
variable {N : Nat} {rs : List Rn} {r : Rn}
theorem same_more {i j : Int} (h : Same rs i j) : Same (rs ++ [r]) i j := h.mono (fun r' h' => List.mem_append_left _ h')
/-- the run is in a loop: nothing turns -/
theorem labs_loop (h0 : 0 ≤ r.f) (h1 : r.f < N) (h2 : 0 ≤ r.t) (h3 : r.t < N) (he : htAt (labs N rs) r.f = htAt (labs N rs) r.t) : labs N (rs ++ [r]) = labs N rs := by
  have L := labs_is N rs
  have hs : Same rs r.f r.t := (L.lst _ h0 h1).same.symm.trans (by rw [he]; exact (L.lst _ h2 h3).same)
  have : IsLab N (rs ++ [r]) (labs N rs) := ⟨L.len, fun i hi hi' => by
    have := L.lst i hi hi'
    exact ⟨this.lo, this.le, same_more this.same, fun x hx hx' hsx => this.min x hx hx' (hsx.snoc hs)⟩⟩
  exact (labs_eq this).symm
def join (al be : Int) (z : Int) : Int := if z = be then al else z
/-- the run links: what was linked with be is now linked with al -/
theorem labs_link (hok : ∀ r' ∈ rs ++ [r], 0 ≤ r'.f ∧ r'.f < (N : Int) ∧ 0 ≤ r'.t ∧ r'.t < (N : Int)) {al be : Int} (hlt : al < be)
    (he : (htAt (labs N rs) r.f = al ∧ htAt (labs N rs) r.t = be) ∨ (htAt (labs N rs) r.f = be ∧ htAt (labs N rs) r.t = al)) : labs N (rs ++ [r]) = (labs N rs).map (join al be) := by
  have L := labs_is N rs
  have hl := labs_len N rs
  obtain ⟨q0, q1, q2, q3⟩ := hok r (by simp)
  have lf := L.lst _ q0 q1
  have lt := L.lst _ q2 q3
  have hab : Same (rs ++ [r]) al be := by
    have sr : Same (rs ++ [r]) r.f r.t := Same.run (by simp)
    have sf := same_more (r := r) lf.same
    have st := same_more (r := r) lt.same
    rcases he with ⟨e1, e2⟩ | ⟨e1, e2⟩ <;> rw [e1] at sf <;> rw [e2] at st
    · exact (sf.trans sr).trans st.symm
    · exact ((sf.trans sr).trans st.symm).symm
  have hal : 0 ≤ al := by rcases he with ⟨e1, e2⟩ | ⟨e1, e2⟩; exact e1 ▸ lf.lo; exact e2 ▸ lt.lo
  have hm : ∀ i : Int, 0 ≤ i → i < N → htAt ((labs N rs).map (join al be)) i = join al be (htAt (labs N rs) i) := fun i h0 h1 => htAt_map _ _ h0 (by omega)
  have hle : ∀ i : Int, 0 ≤ i → i < N → join al be (htAt (labs N rs) i) ≤ i := fun i h0 h1 => by
    have := (L.lst i h0 h1).le
    unfold join; split <;> omega
  have hconst : ∀ x i : Int, Same (rs ++ [r]) x i → (join al be (htAt (labs N rs) x) = join al be (htAt (labs N rs) i)) := fun x i hs => by
    refine (hs (fun y => join al be (htAt (labs N rs) y) = join al be (htAt (labs N rs) i)) (fun r' hr' => ?_)).2 rfl
    rcases List.mem_append.1 hr' with h' | h'
    · obtain ⟨a0, a1, a2, a3⟩ := hok r' hr'
      have : htAt (labs N rs) r'.f = htAt (labs N rs) r'.t := Lst.of_same a1 a3 (L.lst _ a0 a1) (L.lst _ a2 a3) (Same.run h')
      rw [this]
    · simp at h'; subst h'
      have : join al be (htAt (labs N rs) r'.f) = join al be (htAt (labs N rs) r'.t) := by
        rcases he with ⟨e1, e2⟩ | ⟨e1, e2⟩ <;> rw [e1, e2] <;> unfold join
        · rw [if_neg (by omega), if_pos rfl]
        · rw [if_pos rfl, if_neg (by omega)]
      rw [this]
  have : IsLab N (rs ++ [r]) ((labs N rs).map (join al be)) := ⟨by simp [hl], fun i h0 h1 => by
    rw [hm i h0 h1]
    have li := L.lst i h0 h1
    refine ⟨?_, hle i h0 h1, ?_, fun x hx hx' hs => by rw [← hconst x i hs]; exact hle x hx hx'⟩
    · unfold join; split
      · exact hal
      · exact li.lo
    · unfold join; split
      · rename_i e
        exact hab.trans (by rw [← e]; exact same_more li.same)
      · exact same_more li.same⟩
  exact (labs_eq this).symm
theorem roots_link (hok : ∀ r' ∈ rs ++ [r], 0 ≤ r'.f ∧ r'.f < (N : Int) ∧ 0 ≤ r'.t ∧ r'.t < (N : Int)) (hne : htAt (labs N rs) r.f ≠ htAt (labs N rs) r.t) : roots (labs N rs) N = roots (labs N (rs ++ [r])) N + 1 := by
  have L := labs_is N rs
  have hl := labs_len N rs
  obtain ⟨q0, q1, q2, q3⟩ := hok r (by simp)
  have lf := L.lst _ q0 q1
  have lt := L.lst _ q2 q3
  obtain ⟨al, be, hlt, he⟩ : ∃ al be : Int, al < be ∧ ((htAt (labs N rs) r.f = al ∧ htAt (labs N rs) r.t = be) ∨ (htAt (labs N rs) r.f = be ∧ htAt (labs N rs) r.t = al)) := by
    rcases Int.lt_or_gt_of_ne hne with h | h
    · exact ⟨_, _, h, .inl ⟨rfl, rfl⟩⟩
    · exact ⟨_, _, h, .inr ⟨rfl, rfl⟩⟩
  rw [labs_link hok hlt he]
  have hfix : ∀ z i : Int, 0 ≤ i → i < N → htAt (labs N rs) i = z → 0 ≤ z ∧ z < N ∧ htAt (labs N rs) z = z := fun z i h0 h1 e => by
    have li := L.lst i h0 h1
    rw [e] at li
    have hz := li.lo
    have hz' := li.le
    exact ⟨hz, by omega, Lst.of_same (by omega) h1 (L.lst z hz (by omega)) li li.same⟩
  obtain ⟨⟨a0, a1, aa⟩, ⟨b0, b1, bb⟩⟩ : (0 ≤ al ∧ al < N ∧ htAt (labs N rs) al = al) ∧ (0 ≤ be ∧ be < N ∧ htAt (labs N rs) be = be) := by
    rcases he with ⟨e1, e2⟩ | ⟨e1, e2⟩
    · exact ⟨hfix _ _ q0 q1 e1, hfix _ _ q2 q3 e2⟩
    · exact ⟨hfix _ _ q2 q3 e2, hfix _ _ q0 q1 e1⟩
  obtain ⟨c, rfl⟩ : ∃ c : Nat, be = (c : Int) := ⟨be.toNat, by omega⟩
  have hm : ∀ i : Int, 0 ≤ i → i < N → htAt ((labs N rs).map (join al c)) i = join al c (htAt (labs N rs) i) := fun i h0 h1 => htAt_map _ _ h0 (by omega)
  refine roots_drop c N (fun i hi hic => ?_) bb ?_ (by omega)
  · rw [hm i (by omega) (by omega)]
    unfold join
    split
    · rename_i e
      constructor
      · intro e'; omega
      · intro e'
        rw [← e', aa] at e
        omega
    · exact Iff.rfl
  · rw [hm c b0 b1, bb]
    unfold join
    rw [if_pos rfl]
    omega
end
end Go.Proofs.YtoaomjchaihkaaaGreatDoor
namespace Go.Proofs.YtoaomjchaihkaaaGreatDoor
set_option linter.unusedVariables false

def runOf (rs : List Rn) (k : Int) : Rn := (rs[k.toNat]?).getD ⟨0, 0, 0, 0⟩
def sub (rs : List Rn) (T : List Int) : List Rn := T.map (runOf rs)
theorem sub_len (rs : List Rn) (T : List Int) : (sub rs T).length = T.length := by simp [sub]
theorem sub_snoc (rs : List Rn) (T : List Int) (k : Nat) {r : Rn} (h : rs[k]? = some r) : sub rs (T ++ [(k : Int)]) = sub rs T ++ [r] := by simp [sub, runOf, h]
theorem runOf_at {rs : List Rn} {z : Int} (h0 : 0 ≤ z) (h1 : z < rs.length) : rs[z.toNat]? = some (runOf rs z) := by
  have hlt : z.toNat < rs.length := by omega
  simp [runOf, List.getElem?_eq_getElem hlt]
structure Asc (n : Nat) (T : List Int) : Prop where
  rng : ∀ z ∈ T, 0 ≤ z ∧ z < (n : Int)
  up : T.Pairwise (· < ·)
theorem Asc.mem_sub {rs : List Rn} {n : Nat} {T : List Int} (h : Asc n T) (hn : n ≤ rs.length) : ∀ r ∈ sub rs T, r ∈ rs := fun r hr => by
  obtain ⟨z, hz, rfl⟩ := List.mem_map.1 hr
  obtain ⟨z0, z1⟩ := h.rng z hz
  exact List.mem_of_getElem? (runOf_at z0 (by omega))
/-- the tree that the first k runs give -/
structure First (N : Nat) (rs : List Rn) (k : Nat) (T : List Int) : Prop where
  asc : Asc k T
  lab : labs N (sub rs T) = labs N (rs.take k)
  cnt : T.length + roots (labs N (sub rs T)) N = N
theorem roots_full {N : Nat} : roots (labs N []) N = N := by
  have : ∀ k : Nat, k ≤ N → roots (labs N []) k = k := by
    intro k
    induction k with
    | zero => intro _; rfl
    | succ k ih =>
      intro hk
      have l := (labs_is N []).lst k (by omega) (by omega)
      have e : htAt (labs N []) k = k := (l.same (fun x => x = (k : Int)) (fun r hr => by simp at hr)).2 rfl
      simp only [roots]
      rw [ih (by omega), if_pos e]
  exact this N (Nat.le_refl _)
theorem First.start (N : Nat) (rs : List Rn) : First N rs 0 [] := ⟨⟨fun z hz => by simp at hz, List.Pairwise.nil⟩, by simp [sub], by simp [sub, roots_full]⟩
section
variable {N : Nat} {rs : List Rn} {k : Nat} {T : List Int} {r : Rn} (hok : ∀ r' ∈ rs, 0 ≤ r'.f ∧ r'.f < (N : Int) ∧ 0 ≤ r'.t ∧ r'.t < (N : Int))
include hok
theorem First.skip (h : First N rs k T) (hr : rs[k]? = some r) (he : htAt (labs N (sub rs T)) r.f = htAt (labs N (sub rs T)) r.t) : First N rs (k + 1) T := by
  obtain ⟨q0, q1, q2, q3⟩ := hok r (List.mem_of_getElem? hr)
  refine ⟨⟨fun z hz => by have := h.asc.rng z hz; omega, h.asc.up⟩, ?_, h.cnt⟩
  have e : rs.take (k + 1) = rs.take k ++ [r] := by rw [List.take_add_one, hr]; rfl
  rw [e, labs_loop q0 q1 q2 q3 (by rw [← h.lab]; exact he)]
  exact h.lab
theorem First.take (h : First N rs k T) (hr : rs[k]? = some r) (hne : htAt (labs N (sub rs T)) r.f ≠ htAt (labs N (sub rs T)) r.t) : First N rs (k + 1) (T ++ [(k : Int)]) := by
  have hk := (List.getElem?_eq_some_iff.1 hr).1
  have hms := h.asc.mem_sub (rs := rs) (by omega)
  have hrm := List.mem_of_getElem? hr
  have hok1 : ∀ r' ∈ sub rs T ++ [r], 0 ≤ r'.f ∧ r'.f < (N : Int) ∧ 0 ≤ r'.t ∧ r'.t < (N : Int) := fun r' hr' => by
    rcases List.mem_append.1 hr' with h' | h'
    · exact hok r' (hms r' h')
    · simp at h'; subst h'; exact hok _ hrm
  have e : rs.take (k + 1) = rs.take k ++ [r] := by rw [List.take_add_one, hr]; rfl
  have hok2 : ∀ r' ∈ rs.take k ++ [r], 0 ≤ r'.f ∧ r'.f < (N : Int) ∧ 0 ≤ r'.t ∧ r'.t < (N : Int) := fun r' hr' => by
    rw [← e] at hr'; exact hok r' (List.mem_of_mem_take hr')
  have hs := sub_snoc rs T k hr
  refine ⟨⟨fun z hz => ?_, ?_⟩, ?_, ?_⟩
  · rcases List.mem_append.1 hz with h' | h'
    · have := h.asc.rng z h'; omega
    · simp at h'; subst h'; omega
  · rw [List.pairwise_append]
    refine ⟨h.asc.up, by simp, fun a ha b hb => ?_⟩
    simp at hb; subst hb
    exact (h.asc.rng a ha).2
  · rw [hs, e]
    obtain ⟨al, be, hlt, hv⟩ : ∃ al be : Int, al < be ∧ ((htAt (labs N (sub rs T)) r.f = al ∧ htAt (labs N (sub rs T)) r.t = be) ∨ (htAt (labs N (sub rs T)) r.f = be ∧ htAt (labs N (sub rs T)) r.t = al)) := by
      rcases Int.lt_or_gt_of_ne hne with h | h
      · exact ⟨_, _, h, .inl ⟨rfl, rfl⟩⟩
      · exact ⟨_, _, h, .inr ⟨rfl, rfl⟩⟩
    rw [labs_link hok1 hlt hv, labs_link hok2 hlt (by rw [← h.lab]; exact hv), h.lab]
  · rw [hs]
    have := roots_link hok1 hne
    have := h.cnt
    simp; omega
end
theorem roots_zero {L : List Int} : ∀ k : Nat, (∀ i : Nat, i < k + 1 → htAt L i = 0) → roots L (k + 1) = 1
  | 0, h => by
    have := h 0 (by omega)
    simp only [roots]
    rw [if_pos (by simpa using this)]
  | k + 1, h => by
    have ih := roots_zero k (fun i hi => h i (by omega))
    rw [roots, ih, if_neg (by have := h (k + 1) (by omega); omega)]
/-- a whole net's first tree has one run less than there are nodes, and is whole -/
theorem First.whole {N : Nat} {rs : List Rn} {T : List Int} (h : First N rs rs.length T) (hw : nWhole N rs = true) : T.length + 1 = N ∧ nWhole N (sub rs T) = true := by
  have hn : nOk N rs = true := by unfold nWhole at hw; simp at hw; exact hw.1
  obtain ⟨h1, h2, h3, h4⟩ := nOk_true hn
  have hlab := h.lab
  rw [List.take_length] at hlab
  have hz : (labs N rs).all (fun z => decide (z = 0)) = true := by unfold nWhole at hw; rw [hn] at hw; simpa using hw
  have hall : ∀ i : Nat, i < N → htAt (labs N rs) i = 0 := fun i hi => by
    have := htAt_get (L := labs N rs) (x := (i : Int)) (by omega) (by rw [labs_len]; omega)
    rw [List.all_eq_true] at hz
    have := hz _ (List.mem_of_getElem? this)
    simpa using this
  obtain ⟨M, rfl⟩ : ∃ M, N = M + 1 := ⟨N - 1, by omega⟩
  have hr := roots_zero M hall
  have hc := h.cnt
  rw [hlab, hr] at hc
  have hlen : T.length = M := by omega
  have hok : nOk ((M + 1 : Nat) : Int) (sub rs T) = true := nOk_of h1 h2 (by rw [sub_len]; omega) (fun i r hi => by
    obtain ⟨j, hj⟩ := List.getElem?_of_mem (h.asc.mem_sub (Nat.le_refl _) r (List.mem_of_getElem? hi))
    exact h4 j r hj)
  exact ⟨by omega, by unfold nWhole; rw [hok, hlab, hz]; rfl⟩
theorem First.sub_ok {N : Nat} {rs : List Rn} {k : Nat} {T : List Int} (h : First N rs k T) (hn : nOk N rs = true) (hk : k ≤ rs.length) : nOk N (sub rs T) = true := by
  obtain ⟨h1, h2, h3, h4⟩ := nOk_true hn
  have := h.cnt
  exact nOk_of h1 h2 (by rw [sub_len]; omega) (fun i r hi => by
    obtain ⟨j, hj⟩ := List.getElem?_of_mem (h.asc.mem_sub hk r (List.mem_of_getElem? hi))
    exact h4 j r hj)
end Go.Proofs.YtoaomjchaihkaaaGreatDoor
