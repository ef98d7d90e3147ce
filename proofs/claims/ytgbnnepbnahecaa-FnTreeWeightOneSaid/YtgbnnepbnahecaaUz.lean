/-
  A block of slices that a call has made, and lists of integers that it holds. No function of the program is named.
  The reference model's trees of a net, all of them.
  The reference model's TreeMany and TreeWeight.
-/
import Derived.Test.YtgbnnepbnahecaaApp
import Derived.Test.YtgbnnepbnahecaaNd
import Derived.Test.YtgbnnepbnahecaaTz
import Derived.Test.YtgbnnepbnahecaaTrc
import Derived.Test.YtgbnnepbnahecaaNU
namespace Go.Proofs.Ytgbnnepbnahecaa
set_option linter.unusedVariables false
open Go.RowKit

/-- the block g is a row of cap elements of one cell, the first n of which hold vs -/
def OwnV (w : World) (g : Nat) (T : TypeId) (n cap : Nat) (vs : List Value) : Prop := w.ownsRow g T 1 (.slice (some ⟨g, 0, none⟩) n cap) n vs
section
variable {w w' : World} {g : Nat} {T : TypeId} {n cap : Nat} {vs : List Value}
theorem OwnV.body (h : OwnV w g T n cap vs) : ∃ cur, w.heap[g]? = some (.cells cur T (0, 0)) ∧ n ≤ cap ∧ cap ≤ maxLen ∧ cur.size = cap * 1 ∧ cur.toList.take (n * 1) = vs ∧ vs.length = n * 1 := by
  obtain ⟨hl, hn | ⟨g', cap', cur, e, hb, hg, h1, h2, h3, h4⟩⟩ := h
  · simp at hn
  · simp at e
    obtain ⟨rfl, rfl⟩ := e
    exact ⟨cur, hg, h1, h2, h3, h4, hl⟩
theorem OwnV.of {cur : Array Value} (h0 : w.heap[g]? = some (.cells cur T (0, 0))) (h1 : n ≤ cap) (h2 : cap ≤ maxLen) (h3 : cur.size = cap * 1) (h4 : cur.toList.take (n * 1) = vs) (h5 : vs.length = n * 1) : OwnV w g T n cap vs :=
  ⟨h5, .inr ⟨g, cap, cur, rfl, Nat.le_refl _, h0, h1, h2, h3, h4⟩⟩
theorem OwnV.lt (h : OwnV w g T n cap vs) : g < w.heap.size := by
  obtain ⟨cur, hg, _⟩ := h.body
  exact (Array.getElem?_eq_some_iff.1 hg).1
theorem OwnV.len (h : OwnV w g T n cap vs) : vs.length = n := by obtain ⟨_, _, _, _, _, _, h⟩ := h.body; omega
theorem OwnV.cells (h : OwnV w g T n cap vs) {i : Nat} {v : Value} (hi : vs[i]? = some v) : w.cell? ⟨g, i, none⟩ = some v := by
  obtain ⟨cur, hg, h1, h2, h3, h4, h5⟩ := h.body
  have e : (cur.toList.take (n * 1))[i]? = some v := by rw [h4]; exact hi
  rw [List.getElem?_take] at e
  split at e
  · rw [Joins.cell_of_block hg]; simpa using e
  · cases e
theorem OwnV.block (h : OwnV w g T n cap vs) (e : w'.heap[g]? = w.heap[g]?) : OwnV w' g T n cap vs := by
  obtain ⟨cur, hg, h1, h2, h3, h4, h5⟩ := h.body
  exact .of (e.trans hg) h1 h2 h3 h4 h5
theorem OwnV.below (h : OwnV w g T n cap vs) (hb : Below w.heap.size w w') : OwnV w' g T n cap vs := h.block (hb.block _ h.lt)
theorem OwnV.grown {g' : Nat} (h : OwnV w g T n cap vs) (hg : w.grownBy w' (some g')) (hne : g ≠ g') : OwnV w' g T n cap vs := h.block (hg.block _ h.lt (by simpa using hne))
theorem OwnV.alloc (h : OwnV w g T n cap vs) (o : Obj) : OwnV (w.alloc o) g T n cap vs := h.block (Deep.blk_alloc_lt _ _ _ h.lt)
theorem OwnV.row (h : OwnV w g T n cap vs) {b : Nat} (hb : b ≤ g) : w.ownsRow b T 1 (.slice (some ⟨g, 0, none⟩) n cap) n vs := Joins.ownsRow_le h hb
end
theorem OwnV.empty (w : World) (T : TypeId) : OwnV (w.alloc (.cells #[] T)) w.heap.size T 0 0 [] := .of (Deep.blk_alloc_new _ _) (Nat.le_refl _) (Nat.zero_le _) (by simp) (by simp) (by simp)
theorem OwnV.one (w : World) (T : TypeId) (v : Value) : OwnV (w.alloc (.cells #[v] T)) w.heap.size T 1 1 [v] := .of (Deep.blk_alloc_new _ _) (Nat.le_refl _) (by unfold maxLen; omega) (by simp) (by simp) (by simp)

theorem wp_appendV {P : Program} (w : World) {ops : Array Oper} {rest : List Oper} {o : Oper} {a : Act} {Q : Exit → Act → World → Prop} (hgd : o.guard = none) (s x : Operand) (t : TypeId)
    (ho : o.op = .call { callee := .builtin .append, args := #[s, x], argTypes := #[t, t] })
    (e : TypeId) (z : Value) (bytes : Nat) (ht : P.underlying t = some (.slice e)) (hinfo : (P.info? e).map (fun i => (i.zero, i.size, i.bytes)) = some (some z, 1, bytes)) (hzs : z.cells.size = 1) (hby : bytes ≤ 32)
    (g n cap : Nat) (vs : List Value) (hs : a.eval s = .slice (some ⟨g, 0, none⟩) n cap) (hown : OwnV w g e n cap vs)
    (ad : Addr) (m c : Nat) (news : List Value) (hx : a.eval x = .slice (some ad) m c) (hl : news.length = m) (hnews : ∀ (j : Nat) (u : Value), news[j]? = some u → w.cell? (ad.add j) = some u) (h1 : ∀ u ∈ news, u.oneCell' = true) (h63 : n + m ≤ 4194304)
    (h : ∀ g' cap' w', OwnV w' g' e (n + m) cap' (vs ++ news) → w.grownBy w' (some g) → (g' = g ∨ g' = w.heap.size) → w.heap.size ≤ w'.heap.size → wpList P ops Q rest (a.put o.dst (.slice (some ⟨g', 0, none⟩) (n + m) cap')) w') :
    wpList P ops Q (o :: rest) a w := by
  obtain ⟨i, hi, hzz⟩ := Option.map_eq_some_iff.1 hinfo
  simp only [Prod.mk.injEq] at hzz
  obtain ⟨hz, hs', hb⟩ := hzz
  have h32 : (n + m) * bytes ≤ 4194304 * 32 := Nat.mul_le_mul h63 hby
  refine wpList_append_own_at w hgd s x t ho 0 e i z 1 bytes ht hi hz hs' hb hzs (by decide) _ n vs hs (hown.row (Nat.zero_le _)) ad m c news hx (by omega) hnews h1 (by unfold maxLen; omega) (by omega) (Nat.zero_le _) ?_
  intro v' w' hown' hg hnil hloc
  have hgw : w.grownBy w' (some g) := hg
  obtain ⟨hl', ⟨rfl, h0⟩ | ⟨g', cap', cur, rfl, hb', hgg, h1, h2, h3, h4⟩⟩ := hown'
  · have := hnil.1 rfl
    simp at this
  · refine h g' cap' w' ⟨hl', .inr ⟨g', cap', cur, rfl, Nat.le_refl _, hgg, h1, h2, h3, h4⟩⟩ hgw ?_ hgw.size
    simpa [Value.ownBlock] using hloc

/-- the slices vs hold the lists L, each in a block of its own at or beyond lo that is not g -/
def Rows (lo g : Nat) (w : World) (vs : List Value) (L : List (List Int)) : Prop :=
  vs.length = L.length ∧ ∀ (i : Nat) (T : List Int), L[i]? = some T → ∃ b c : Nat, vs[i]? = some (.slice (some ⟨b, 0, none⟩) T.length c) ∧ lo ≤ b ∧ b < w.heap.size ∧ b ≠ g ∧ Ints w (some ⟨b, 0, none⟩) T
section
variable {lo g : Nat} {w w' : World} {vs : List Value} {L : List (List Int)}
theorem Rows.nil (lo g : Nat) (w : World) : Rows lo g w [] [] := ⟨rfl, fun i T h => by simp at h⟩
theorem Rows.below (h : Rows lo g w vs L) (hb : Below w.heap.size w w') : Rows lo g w' vs L := ⟨h.1, fun i T hT => by
  obtain ⟨b, c, h1, h2, h3, h4, h5⟩ := h.2 i T hT
  exact ⟨b, c, h1, h2, by have := hb.size; omega, h4, h5.below hb⟩⟩
theorem Rows.alloc (h : Rows lo g w vs L) (o : Obj) : Rows lo g (w.alloc o) vs L := h.below ((Below.refl _ _).alloc (Nat.le_refl _) _)
theorem Rows.grown (h : Rows lo g w vs L) (hg : w.grownBy w' (some g)) : Rows lo g w' vs L := ⟨h.1, fun i T hT => by
  obtain ⟨b, c, h1, h2, h3, h4, h5⟩ := h.2 i T hT
  exact ⟨b, c, h1, h2, by have := hg.size; omega, h4, h5.grown hg (fun o e => by cases e; exact h4 rfl)⟩⟩
theorem Rows.far {g' : Nat} (h : Rows lo g w vs L) (hg : w.grownBy w' (some g')) (hlo : ∀ b, lo ≤ b → b < w.heap.size → b ≠ g') : Rows lo g w' vs L := ⟨h.1, fun i T hT => by
  obtain ⟨b, c, h1, h2, h3, h4, h5⟩ := h.2 i T hT
  exact ⟨b, c, h1, h2, by have := hg.size; omega, h4, h5.grown hg (fun o e => by cases e; exact hlo _ h2 h3 rfl)⟩⟩
theorem Rows.append {lo2 g2 : Nat} {vs2 : List Value} {L2 : List (List Int)} (h : Rows lo g w vs L) (h2 : Rows lo2 g2 w vs2 L2) (hlo : lo ≤ lo2) (hg : g < lo2) : Rows lo g w (vs ++ vs2) (L ++ L2) := ⟨by simp [h.1, h2.1], fun i T hT => by
  by_cases hi : i < L.length
  · rw [List.getElem?_append_left hi] at hT
    obtain ⟨b, c, h1, h3⟩ := h.2 i T hT
    exact ⟨b, c, by rw [List.getElem?_append_left (by rw [h.1]; exact hi)]; exact h1, h3⟩
  · rw [List.getElem?_append_right (by omega)] at hT
    obtain ⟨b, c, h1, h3, h4, h5, h6⟩ := h2.2 _ T hT
    exact ⟨b, c, by rw [List.getElem?_append_right (by rw [h.1]; omega), h.1]; exact h1, by omega, h4, by omega, h6⟩⟩
theorem Rows.to {g' : Nat} (h : Rows lo g w vs L) (hne : ∀ b, lo ≤ b → b < w.heap.size → b ≠ g → b ≠ g') : Rows lo g' w vs L := ⟨h.1, fun i T hT => by
  obtain ⟨b, c, h1, h2, h3, h4, h5⟩ := h.2 i T hT
  exact ⟨b, c, h1, h2, h3, hne b h2 h3 h4, h5⟩⟩
theorem Rows.lower {lo' : Nat} (h : Rows lo g w vs L) (hl : lo' ≤ lo) : Rows lo' g w vs L := ⟨h.1, fun i T hT => by
  obtain ⟨b, c, h1, h2, h3⟩ := h.2 i T hT
  exact ⟨b, c, h1, by omega, h3⟩⟩
theorem Rows.one (h : Rows lo g w vs L) : ∀ u ∈ vs, u.oneCell' = true := fun u hu => by
  obtain ⟨i, hi⟩ := List.getElem?_of_mem hu
  have hl := (List.getElem?_eq_some_iff.1 hi).1
  have hT := List.getElem?_eq_getElem (by rw [← h.1]; exact hl : i < L.length)
  obtain ⟨b, c, h1, -⟩ := h.2 i _ hT
  rw [hi] at h1
  cases h1
  rfl
end
end Go.Proofs.Ytgbnnepbnahecaa
namespace Go.Proofs.Ytgbnnepbnahecaa
open Go.RowKit
set_option linter.unusedVariables false

theorem info_ints : (Try.prog.info? 24).map (fun i => (i.zero, i.size, i.bytes)) = some (some (.slice none 0 0), 1, 24) := by kernel_rfl
/-- all trees that begin with these indexes, and whose d others are not less than b -/
noncomputable def All (N : Nat) (rs : List Rn) (bg : List Int) (d b : Nat) : List (List Int) := ((ext rs.length d b).map (bg ++ ·)).filter (isT N rs)
theorem All_yes {N : Nat} {rs : List Rn} {bg : List Int} {b : Nat} (h : isT N rs bg = true) : All N rs bg 0 b = [bg] := by unfold All; simp [ext, h]
theorem All_no {N : Nat} {rs : List Rn} {bg : List Int} {b : Nat} (h : isT N rs bg = false) : All N rs bg 0 b = [] := by unfold All; simp [ext, h]
theorem All_trees (N : Nat) (rs : List Rn) : All N rs [] (N - 1) 0 = trees N rs := by
  unfold All trees
  congr 1
  rw [show (fun x : List Int => [] ++ x) = id from rfl, List.map_id]
noncomputable def Pre (N : Nat) (rs : List Rn) (bg : List Int) (d b k : Nat) : List (List Int) := (List.range' b (k - b)).flatMap (fun q : Nat => All N rs (bg ++ [(q : Int)]) d (q + 1))
theorem All_step (N : Nat) (rs : List Rn) (bg : List Int) (d b : Nat) : All N rs bg (d + 1) b = Pre N rs bg d b rs.length := by
  unfold All Pre
  simp only [ext, List.map_flatMap, List.filter_flatMap]
  congr 1
  funext q
  unfold All
  rw [List.map_map]
  congr 1
  exact List.map_congr_left (fun x _ => by simp)
theorem Pre_start (N : Nat) (rs : List Rn) (bg : List Int) (d b : Nat) : Pre N rs bg d b b = [] := by unfold Pre; simp
theorem Pre_succ {N : Nat} {rs : List Rn} {bg : List Int} {d b k : Nat} (h : b ≤ k) : Pre N rs bg d b (k + 1) = Pre N rs bg d b k ++ All N rs (bg ++ [(k : Int)]) d (k + 1) := by
  unfold Pre
  rw [show k + 1 - b = (k - b) + 1 by omega, List.range'_1_concat, List.flatMap_append, show b + (k - b) = k by omega]
  simp
theorem All_few {N : Nat} {rs : List Rn} {bg : List Int} {d b : Nat} (hm : rs.length ≤ 12) (hd : d ≤ 5) : (All N rs bg d b).length ≤ 248832 := by
  unfold All
  have a := List.length_filter_le (isT N rs) ((ext rs.length d b).map (bg ++ ·))
  have b' := ext_few rs.length d b
  have c : rs.length ^ d ≤ 12 ^ d := Nat.pow_le_pow_left hm _
  have d' : 12 ^ d ≤ 12 ^ 5 := Nat.pow_le_pow_right (by decide) hd
  have e : (12 : Nat) ^ 5 = 248832 := by decide
  rw [List.length_map] at a
  omega
theorem Pre_few {N : Nat} {rs : List Rn} {bg : List Int} {d b k : Nat} (hm : rs.length ≤ 12) (hd : d + 1 ≤ 5) (hb : b ≤ k) (hk : k ≤ rs.length) : (Pre N rs bg d b k).length ≤ 248832 := by
  have h := All_few (N := N) (bg := bg) (b := b) hm hd
  rw [All_step] at h
  have e : Pre N rs bg d b rs.length = Pre N rs bg d b k ++ (List.range' k (rs.length - k)).flatMap (fun q : Nat => All N rs (bg ++ [(q : Int)]) d (q + 1)) := by
    unfold Pre
    rw [← List.flatMap_append, show k = b + (k - b) by omega, show b + (k - b) - b = k - b by omega, List.range'_append_1, show k - b + (rs.length - (b + (k - b))) = rs.length - b by omega]
  rw [e, List.length_append] at h
  omega
theorem Rows.step {lo g g' : Nat} {w w' : World} {vs : List Value} {L : List (List Int)} (h : Rows lo g w vs L) (hg : w.grownBy w' (some g)) (hl : g' = g ∨ g' = w.heap.size) : Rows lo g' w' vs L := ⟨h.1, fun i T hT => by
  obtain ⟨b, c, h1, h2, h3, h4, h5⟩ := h.2 i T hT
  exact ⟨b, c, h1, h2, by have := hg.size; omega, by omega, h5.grown hg (fun o e => by cases e; exact h4 rfl)⟩⟩
/-- what is answered -/
def AllAt (w : World) (L : List (List Int)) (e : Ending) (w' : World) : Prop :=
  ∃ (g cap K : Nat) (vs : List Value), e = .returned (.slice (some ⟨g, 0, none⟩) K cap) ∧ L.length = K ∧ w.heap.size ≤ g ∧ OwnV w' g 24 K cap vs ∧ Rows w.heap.size g w' vs L ∧ Below w.heap.size w w'

set_option maxHeartbeats 4000000 in
set_option maxRecDepth 100000 in
theorem sAll (N m c : Nat) (p : Option Addr) (rs : List Rn) (hm : rs.length = m) (hn : nOk N rs = true) : ∀ (d : Nat) (bg : List Int) (t fr Bq cq : Nat) (w : World), Runs w p rs → Ints w (some ⟨Bq, 0, none⟩) bg → bg.length = t → t + d + 1 = N → fr ≤ m →
    Calls Try.prog 60 #[.int .i64 N, .slice p m c, .slice (some ⟨Bq, 0, none⟩) t cq, .int .i64 fr] w fun e w' => AllAt w (All N rs bg d fr) e w' := by
  obtain ⟨hn2, hn6, hl12, -⟩ := nOk_true hn
  have hm12 : m ≤ 12 := by omega
  intro d
  induction d with
  | zero =>
    intro bg t fr Bq cq w hr hq ht htd hfr
    have htN : ((t : Int) == (N : Int) - 1) = true := by simp; omega
    have ht5 : t ≤ 5 := by omega
    obtain ⟨b, hb⟩ : ∃ b, isT N rs bg = b := ⟨_, rfl⟩
    have c1 := fun w h hh => Lib.hid (sTreeIs_at N m t p (some ⟨Bq, 0, none⟩) c cq rs bg b w h hh hm ht (by omega) (by omega) hb)
    have H := Lib.hid (And.intro hr (And.intro hq (And.intro ht hb)))
    clear hr hq ht hb hn hm
    go_enter Try.func60, Try.ntmps60
    cases b
    · go_wp2_with ((go_at_call 16; (with_reducible refine ((c1 _ ?_ ?_).out).mono ?_); (focus ((exact H.out.1); done)); (focus ((exact H.out.2.1); done)); rintro e wa ⟨rfl, hb_wa⟩; have hs_wa := hb_wa.size; (try simp at hs_wa)))
      go_ret
      refine ⟨_, 0, 0, [], rfl, by rw [All_no H.out.2.2.2]; rfl, by omega, OwnV.empty wa 24, by rw [All_no H.out.2.2.2]; exact Rows.nil _ _ _, (by repeat (first | assumption | exact Below.refl _ _ | (refine below_chain ?_ (by assumption) (by first | omega | (simp <;> omega) | simp)) | (refine Below.alloc ?_ (by first | omega | (simp <;> omega) | simp) _) | (apply below_drewN) | (apply below_drew) | (refine Below.setCell ?_ (by first | omega | (simp <;> omega) | simp) _)))⟩
    · have hlt1 : bg.length = t * 1 := by have := H.out.2.2.1; omega
      go_wp2_with (first | ((go_at_call 16; (with_reducible refine ((c1 _ ?_ ?_).out).mono ?_); (focus ((exact H.out.1); done)); (focus ((exact H.out.2.1); done)); rintro e wa ⟨rfl, hb_wa⟩; have hs_wa := hb_wa.size; (try simp at hs_wa)); have hIt := Lib.hid ((H.out.2.1.below hb_wa).alloc (.cells #[] 3))) | (at_builtin; refine wp_append _ rfl _ _ 24 rfl 3 _ 1 8 Try.underlying24 info_int rfl (by decide) (by decide) _ 0 0 [] rfl (Own.empty _ _ _) _ _ _ bg rfl hlt1 (ints_cells hIt.out) (by omega) ?_; intro gx cx w1 hown hgr hloc hsz; have hs_w1 := hgr.size; (try simp at hs_w1); have HN := Lib.hid (And.intro hown (And.intro hgr hloc)); clear hown hgr hloc; simp only [Nat.zero_add]))
      go_ret
      obtain ⟨hown, hgr, hloc⟩ := HN.out
      have hgx : wa.heap.size ≤ gx := by
        rcases hloc with e | e
        · omega
        · simp at e; omega
      have hbw1 : Below w.heap.size w w1 := below_gr ((hb_wa).alloc hs_wa _) hgr hs_wa (by simp; omega)
      rw [Nat.zero_add, List.nil_append] at hown
      refine ⟨w1.heap.size, 1, 1, [.slice (some ⟨gx, 0, none⟩) t cx], rfl, by rw [All_yes H.out.2.2.2]; rfl, by omega, OwnV.one w1 24 _, ?_, hbw1.alloc (by omega) _⟩
      rw [All_yes H.out.2.2.2]
      refine ⟨rfl, fun i T hT => ?_⟩
      match i, hT with
      | 0, hT =>
        simp at hT; subst hT
        exact ⟨gx, cx, by rw [H.out.2.2.1]; rfl, by omega, by have := hown.lt; simp; omega, by have := hown.lt; omega, hown.ints.alloc _⟩
  | succ d ih =>
    intro bg t fr Bq cq w hr hq ht htd hfr
    have htN : ((t : Int) == (N : Int) - 1) = false := by simp; omega
    have ht5 : t ≤ 5 := by omega
    have hlt1 : bg.length = t * 1 := by omega
    have H := Lib.hid (And.intro hr (And.intro hq (And.intro ht (And.intro hm hn))))
    have IH := Lib.hid ih
    clear hr hq ht hn hm ih
    go_enter Try.func60, Try.ntmps60
    go_wp2_with fail
    go_loopw [9, 10] (fun o i wr => ∃ (k g cap K : Nat) (vs : List Value), fr ≤ k ∧ k ≤ m ∧ i = .int .i64 k ∧ o = .slice (some ⟨g, 0, none⟩) K cap ∧ (Pre N rs bg d fr k).length = K ∧ w.heap.size ≤ g ∧ OwnV wr g 24 K cap vs ∧ Rows w.heap.size g wr vs (Pre N rs bg d fr k) ∧ Below w.heap.size w wr) (fun _ i _ => m - (intOf i).toNat)
    case atStart => exact ⟨fr, _, 0, 0, [], Nat.le_refl _, hfr, rfl, rfl, by rw [Pre_start]; rfl, Nat.le_refl _, OwnV.empty _ _, by rw [Pre_start]; exact Rows.nil _ _ _, (by repeat (first | assumption | exact Below.refl _ _ | (refine below_chain ?_ (by assumption) (by first | omega | (simp <;> omega) | simp)) | (refine Below.alloc ?_ (by first | omega | (simp <;> omega) | simp) _) | (apply below_drewN) | (apply below_drew) | (refine Below.setCell ?_ (by first | omega | (simp <;> omega) | simp) _)))⟩
    case round =>
      obtain ⟨k, g, cap, K, vs, hfk, hkm, rfl, rfl, hK, hg, how, hrow, hbr⟩ := hrel
      have hbs := hbr.size
      have hlo := how.lt
      have hKf : K ≤ 248832 := by rw [← hK]; exact Pre_few (by have := H.out.2.2.2.1; omega) (by omega) hfk (by have := H.out.2.2.2.1; omega)
      have HO := Lib.hid (And.intro how (And.intro hrow (And.intro hbr hK)))
      have hIt := Lib.hid ((H.out.2.1.below hbr).alloc (.cells #[] 3))
      have hRr := Lib.hid (H.out.1.below hbr)
      clear how hrow hbr hK
      by_cases hlt : k < m
      · have hfew := All_few (N := N) (rs := rs) (bg := bg ++ [(k : Int)]) (d := d) (b := k + 1) (by have := H.out.2.2.2.1; omega) (by omega)
        have cC : ∀ (gm cm : Nat) (wz : World), Runs wz p rs → Ints wz (some ⟨gm, 0, none⟩) (bg ++ [(k : Int)]) → Hid (Calls Try.prog 60 #[.int .i64 N, .slice p m c, .slice (some ⟨gm, 0, none⟩) (t + 1) cm, .int .i64 ((k : Int) + 1)] wz fun e w' => AllAt wz (All N rs (bg ++ [(k : Int)]) d (k + 1)) e w') := fun gm cm wz h hq => Lib.hid (by
          have := IH.out (bg ++ [(k : Int)]) (t + 1) (k + 1) gm cm wz h hq (by have := H.out.2.2.1; simp; omega) (by omega) (by omega)
          exact this)
        go_wp2_with (first | (at_builtin; refine wp_append _ rfl _ _ 24 rfl 3 _ 1 8 Try.underlying24 info_int rfl (by decide) (by decide) _ 0 0 [] rfl (Own.empty _ _ _) _ _ _ bg rfl hlt1 (ints_cells hIt.out) (by omega) ?_; intro gx cx w1 hown hgr hloc hsz; have hs_w1 := hgr.size; (try simp at hs_w1); have hb1 : Hid (Below wr.heap.size wr w1 ∧ wr.heap.size ≤ gx) := Lib.hid (And.intro (below_gr ((Below.refl _ wr).alloc (Nat.le_refl _) _) hgr (Nat.le_refl _) (by simp)) (by rcases hloc with e | e; (omega); (simp at e; omega))); rw [Nat.zero_add, List.nil_append] at hown; have HN1 := Lib.hid hown; clear hown hgr hloc; simp only [Nat.zero_add]) | (at_builtin; refine wp_append _ rfl _ _ 24 rfl 3 _ 1 8 Try.underlying24 info_int rfl (by decide) (by decide) gx t cx bg rfl (HN1.out.alloc _) _ _ _ [(k : Int)] rfl rfl (one_cell _ _ _) (by omega) ?_; intro gm cm w2 hown hgr hloc hsz2; have hs_w2 := hgr.size; (try simp at hs_w2); have hb2 : Hid (Below wr.heap.size wr w2) := Lib.hid (below_gr (hb1.out.1.alloc (by omega) _) hgr hb1.out.2 (by simp; omega)); have HN2 := Lib.hid hown; clear hown hgr hloc) | (go_at_call 60; (with_reducible refine ((cC gm cm _ ?_ ?_).out).mono ?_); (focus (exact hRr.out.below hb2.out; done)); (focus (exact HN2.out.ints; done)); rintro e w4 ⟨gr, cr, Kr, vr, rfl, hKr, hgr, hor, hrr, hb4⟩; have hs_w4 := hb4.size; have hKl : Kr ≤ 248832 := (by omega); have HR := Lib.hid (And.intro hKr (And.intro hor (And.intro hrr hb4))); clear hKr hor hrr hb4) | (at_builtin; refine wp_appendV _ rfl _ _ 66 rfl 24 _ 24 Try.underlying66 info_ints rfl (by decide) g K cap vs rfl ((HO.out.1.below hb2.out).below HR.out.2.2.2) ⟨gr, 0, none⟩ Kr cr vr rfl HR.out.2.1.len (fun i u hu => by rw [Go.WideShapes.add_plain, Nat.zero_add]; exact HR.out.2.1.cells hu) HR.out.2.2.1.one (by omega) ?_; intro g' cap' w5 hown hgr5 hloc hsz5; have HN5 := Lib.hid (And.intro hown (And.intro hgr5 hloc)); clear hown hgr5 hloc))
        go_roundw
        case rel =>
          obtain ⟨hown, hgr5, hloc⟩ := HN5.out
          have hg' : w.heap.size ≤ g' := by
            rcases hloc with rfl | rfl
            · exact hg
            · omega
          have hbw4 : Below w.heap.size w w4 := (HO.out.2.2.1.trans (hb2.out.mono hbs)).trans (HR.out.2.2.2.mono (by omega))
          have hrows := ((HO.out.2.1.below hb2.out).below HR.out.2.2.2).append HR.out.2.2.1 (by omega) (by omega)
          exact ⟨k + 1, g', cap', K + Kr, vs ++ vr, by omega, by omega, by go_num, rfl, by rw [Pre_succ hfk, List.length_append, HO.out.2.2.2, HR.out.1], hg', hown, by rw [Pre_succ hfk]; exact hrows.step hgr5 hloc, below_gr hbw4 hgr5 hg (by omega)⟩
        case measure => simp [intOf]; omega
      · have e : k = m := by omega
        subst e
        go_wp2_with fail
        go_ret
        have hA : All N rs bg (d + 1) fr = Pre N rs bg d fr k := by rw [All_step, H.out.2.2.2.1]
        exact ⟨g, cap, K, vs, rfl, by rw [hA]; exact HO.out.2.2.2, hg, HO.out.1, by rw [hA]; exact HO.out.2.1, HO.out.2.2.1⟩
end Go.Proofs.Ytgbnnepbnahecaa
namespace Go.Proofs.Ytgbnnepbnahecaa
open Go.RowKit
set_option linter.unusedVariables false

theorem sAll_trees (N m c : Nat) (p : Option Addr) (rs : List Rn) (hm : rs.length = m) (hn : nOk N rs = true) (Bq : Nat) (w : World) (h : Runs w p rs) :
    Calls Try.prog 60 #[.int .i64 N, .slice p m c, .slice (some ⟨Bq, 0, none⟩) 0 0, .int .i64 0] w fun e w' => AllAt w (trees N rs) e w' := by
  have := sAll N m c p rs hm hn (N - 1) [] 0 0 Bq 0 w h (.inl rfl) rfl (by have := (nOk_true hn).1; omega) (Nat.zero_le _)
  rw [All_trees] at this
  exact this
set_option maxHeartbeats 1000000 in
theorem sMany_yes (N m c : Nat) (p : Option Addr) (rs : List Rn) (w : World) (hr : Runs w p rs) (hm : rs.length = m) (hn : nOk N rs = true) :
    Calls Try.prog 25 #[.int .i64 N, .slice p m c] w fun e w' => e = .returned (.int .i64 (many N rs)) ∧ Below w.heap.size w w' := by
  have c1 := fun w h => Lib.hid (sValid_n (p := p) (c := c) w hm h (by have := (nOk_true hn).2.2.1; omega) hn)
  have c2 := fun B w h => Lib.hid (sAll_trees N m c p rs hm hn B w h)
  have H := Lib.hid hr
  clear hr hm hn
  go_enter Try.func25, Try.ntmps25
  go_wp2_with (first | (go_at_call 50; (with_reducible refine ((c1 _ ?_).out).mono ?_); (focus ((exact H.out); done)); rintro e wa ⟨rfl, hb_wa⟩; have hs_wa := hb_wa.size; (try simp at hs_wa)) | (go_at_call 60; (with_reducible refine ((c2 _ _ ?_).out).mono ?_); (focus (exact (H.out.below hb_wa).alloc _; done)); rintro e wb ⟨g, cap, K, vs, rfl, hK, hg, how, hrow, hb_wb⟩; have hs_wb := hb_wb.size; (try simp at hs_wb)))
  go_ret
  exact ⟨by rw [← hK]; rfl, (by repeat (first | assumption | exact Below.refl _ _ | (refine below_chain ?_ (by assumption) (by first | omega | (simp <;> omega) | simp)) | (refine Below.alloc ?_ (by first | omega | (simp <;> omega) | simp) _) | (apply below_drewN) | (apply below_drew) | (refine Below.setCell ?_ (by first | omega | (simp <;> omega) | simp) _)))⟩
set_option maxHeartbeats 1000000 in
theorem sMany_no (n : Int) (m c : Nat) (p : Option Addr) (rs : List Rn) (w : World) (hr : Runs w p rs) (hm : rs.length = m) (hl : m ≤ 4000000000000000000) (hn : nOk n rs = false) :
    Calls Try.prog 25 #[.int .i64 n, .slice p m c] w fun e w' => e = .returned (.int .i64 (-1)) ∧ Below w.heap.size w w' := by
  have c1 := fun w h => Lib.hid (sValid_n (p := p) (c := c) w hm h hl hn)
  have H := Lib.hid hr
  clear hr hm hn
  go_enter Try.func25, Try.ntmps25
  go_wp2_with ((go_at_call 50; (with_reducible refine ((c1 _ ?_).out).mono ?_); (focus ((exact H.out); done)); rintro e wa ⟨rfl, hb_wa⟩; have hs_wa := hb_wa.size; (try simp at hs_wa)))
  go_ret
  exact ⟨rfl, (by repeat (first | assumption | exact Below.refl _ _ | (refine below_chain ?_ (by assumption) (by first | omega | (simp <;> omega) | simp)) | (refine Below.alloc ?_ (by first | omega | (simp <;> omega) | simp) _) | (apply below_drewN) | (apply below_drew) | (refine Below.setCell ?_ (by first | omega | (simp <;> omega) | simp) _)))⟩
set_option maxHeartbeats 1000000 in
theorem sWeight_no (n : Int) (m c : Nat) (p : Option Addr) (rs : List Rn) (w : World) (hr : Runs w p rs) (hm : rs.length = m) (hl : m ≤ 4000000000000000000) (hn : nOk n rs = false) :
    Calls Try.prog 28 #[.int .i64 n, .slice p m c] w fun e w' => e = .returned (.int .i64 (-1)) ∧ Below w.heap.size w w' := by
  have c1 := fun w h => Lib.hid (sValid_n (p := p) (c := c) w hm h hl hn)
  have H := Lib.hid hr
  clear hr hm hn
  go_enter Try.func28, Try.ntmps28
  go_wp2_with ((go_at_call 50; (with_reducible refine ((c1 _ ?_).out).mono ?_); (focus ((exact H.out); done)); rintro e wa ⟨rfl, hb_wa⟩; have hs_wa := hb_wa.size; (try simp at hs_wa)))
  go_ret
  exact ⟨rfl, (by repeat (first | assumption | exact Below.refl _ _ | (refine below_chain ?_ (by assumption) (by first | omega | (simp <;> omega) | simp)) | (refine Below.alloc ?_ (by first | omega | (simp <;> omega) | simp) _) | (apply below_drewN) | (apply below_drew) | (refine Below.setCell ?_ (by first | omega | (simp <;> omega) | simp) _)))⟩
set_option maxHeartbeats 4000000 in
set_option maxRecDepth 100000 in
theorem sWeight_yes (N m c : Nat) (p : Option Addr) (rs : List Rn) (w : World) (hr : Runs w p rs) (hm : rs.length = m) (hn : nOk N rs = true) :
    Calls Try.prog 28 #[.int .i64 N, .slice p m c] w fun e w' => e = .returned (.int .i64 (heavy N rs)) ∧ Below w.heap.size w w' := by
  have c1 := fun w h => Lib.hid (sValid_n (p := p) (c := c) w hm h (by have := (nOk_true hn).2.2.1; omega) hn)
  have c2 := fun B w h => Lib.hid (sAll_trees N m c p rs hm hn B w h)
  have hm12 : m ≤ 12 := by have := (nOk_true hn).2.2.1; omega
  have hN6 := (nOk_true hn).2.1
  have H := Lib.hid (And.intro hr (And.intro hm hn))
  clear hr hm hn
  go_enter Try.func28, Try.ntmps28
  go_upto_region 5 with (first | (go_at_call 50; (with_reducible refine ((c1 _ ?_).out).mono ?_); (focus ((exact H.out.1); done)); rintro e wa ⟨rfl, hb_wa⟩; have hs_wa := hb_wa.size; (try simp at hs_wa)) | (go_at_call 60; (with_reducible refine ((c2 _ _ ?_).out).mono ?_); (focus (exact (H.out.1.below hb_wa).alloc _; done)); rintro e wb ⟨g, cap, K, vs, rfl, hK, hg, how, hrow, hb_wb⟩; have hs_wb := hb_wb.size; (try simp at hs_wb); have HR := Lib.hid (And.intro hK (And.intro how hrow)); clear how hrow))
  have hB : Hid (Below w.heap.size w wb ∧ Runs wb p rs) := Lib.hid ⟨(by repeat (first | assumption | exact Below.refl _ _ | (refine below_chain ?_ (by assumption) (by first | omega | (simp <;> omega) | simp)) | (refine Below.alloc ?_ (by first | omega | (simp <;> omega) | simp) _) | (apply below_drewN) | (apply below_drew) | (refine Below.setCell ?_ (by first | omega | (simp <;> omega) | simp) _))), ((H.out.1.below hb_wa).alloc _).below hb_wb⟩
  have hKf : K ≤ 248832 := by have := trees_few H.out.2.2; omega
  have hlg := HR.out.2.1.lt
  clear c1 c2 hb_wa hb_wb hK
  go_wp2_with fail
  go_loopw [5, 7] (fun s i wr => ∃ q : Nat, q ≤ K ∧ i = .int .i64 q ∧ s = .int .i64 (sm rs ((trees N rs).take q)) ∧ wb = wr) (fun _ i _ => K - (intOf i).toNat)
  case atStart => exact ⟨0, Nat.zero_le _, rfl, rfl, rfl⟩
  case round =>
    obtain ⟨q, hq, rfl, rfl, rfl⟩ := hrel
    by_cases hlt : q < K
    · obtain ⟨T, hT⟩ : ∃ T, (trees N rs)[q]? = some T := ⟨_, List.getElem?_eq_getElem (by have := HR.out.1; omega)⟩
      have htr : IsTree N rs T := mem_trees.1 (List.mem_of_getElem? hT)
      obtain ⟨b, ct, hv, hb1, hb2, hb3, hI⟩ := HR.out.2.2.2 q T hT
      have x0 := HR.out.2.1.cells hv
      obtain ⟨d, hd⟩ : ∃ d, T.length = d := ⟨_, rfl⟩
      have hd5 : d ≤ 8 := by have := htr.len; omega
      have hpq := sm_trees H.out.2.2 (pre := (trees N rs).take q) (List.take_prefix _ _)
      have hpq1 := sm_trees H.out.2.2 (pre := (trees N rs).take (q + 1)) (List.take_prefix _ _)
      have hsn : sm rs ((trees N rs).take (q + 1)) = sm rs ((trees N rs).take q) + weigh rs T := by rw [take_succ_of hT, sm_snoc]
      rw [hsn] at hpq1
      obtain ⟨s, hs⟩ : ∃ s, sm rs ((trees N rs).take q) = s := ⟨_, rfl⟩
      rw [hs] at hpq hpq1 ⊢
      have HT := Lib.hid (And.intro htr (And.intro hI (And.intro hd (And.intro hs hsn))))
      rw [hd] at x0
      have hwt := weigh_tree htr T.length
      rw [List.take_length] at hwt
      have HWT := Lib.hid (And.intro hwt hpq1)
      clear hT htr hI hv hd hs hsn hwt hpq1
      go_wp2_with fail
      go_loopw [8, 9] (fun v i wr => ∃ u : Nat, u ≤ d ∧ i = .int .i64 u ∧ v = .int .i64 (weigh rs (T.take u)) ∧ wb = wr) (fun _ i _ => d - (intOf i).toNat)
      case atStart => exact ⟨0, Nat.zero_le _, rfl, rfl, rfl⟩
      case round =>
        obtain ⟨u, hu, rfl, rfl, rfl⟩ := hrel
        obtain ⟨htr, hI, hd, hs, hsn⟩ := HT.out
        by_cases hlt2 : u < d
        · obtain ⟨B', o, z, e2, hz, hB', e0⟩ := hI.at (i := u) (by omega)
          cases e2
          simp only [Nat.zero_add] at e0
          obtain ⟨z0, z1⟩ := htr.asc.rng z (List.mem_of_getElem? hz)
          have hwz := weight_at H.out.2.2 z0 z1
          have hw1 := weigh_tree htr u
          have hw2 := weigh_tree htr (u + 1)
          have hsn2 : weigh rs (T.take (u + 1)) = weigh rs (T.take u) * (runOf rs z).g := by rw [take_succ_of hz, weigh_snoc]
          obtain ⟨y, rfl⟩ : ∃ y : Nat, z = (y : Int) := ⟨z.toNat, by omega⟩
          have hym : y < m := by have := H.out.2.1; omega
          obtain ⟨D, o', r, rfl, hr, hD, a0, a1, a2, a3⟩ := hB.out.2.at (i := y) (by have := H.out.2.1; omega)
          have hrg : (runOf rs (y : Int)).g = r.g := by unfold runOf; simp [hr]
          rw [hrg] at hsn2 hwz
          rw [hsn2] at hw2
          obtain ⟨pr, hpr⟩ : ∃ pr, weigh rs (T.take u) = pr := ⟨_, rfl⟩
          rw [hpr] at hw1 hw2 ⊢
          have HN := Lib.hid (And.intro hsn2 hpr)
          obtain ⟨g0, hg0⟩ : ∃ g, r.g = g := ⟨_, rfl⟩
          rw [hg0] at a3 hw2 hwz
          have HG0 := Lib.hid hg0
          clear hz hr htr hI hd hs hsn hsn2 hpr hg0 hrg a0 a1 a2 z0 z1
          go_wp2_with fail
          go_roundw
          case rel => exact ⟨u + 1, by omega, by go_num, by rw [HN.out.1, HN.out.2, HG0.out], by first | trivial | rfl⟩
          case measure => simp [intOf]; omega
        · have e : u = d := by omega
          subst e
          have hwq : weigh rs (T.take u) = weigh rs T := by rw [← hd, List.take_length]
          obtain ⟨⟨hw1, hw2⟩, hw3, hw4⟩ := HWT.out
          rw [hwq]
          obtain ⟨pr, hpr⟩ : ∃ pr, weigh rs T = pr := ⟨_, rfl⟩
          rw [hpr] at hw1 hw2 hw3 hw4 ⊢
          have HG := Lib.hid (And.intro hpr (And.intro hs hsn))
          clear htr hI hd hs hsn hwq hpr
          go_wp2_with fail
          go_roundw
          case rel => exact ⟨q + 1, by omega, by go_num, by rw [HG.out.2.2, HG.out.2.1, HG.out.1], by first | trivial | rfl⟩
          case measure => simp [intOf]; omega
    · have e : q = K := by omega
      subst e
      have hall : sm rs ((trees N rs).take q) = heavy N rs := by rw [List.take_of_length_le (by have := HR.out.1; omega)]; rfl
      rw [hall]
      go_wp2_with fail
      go_ret
      exact ⟨rfl, hB.out.1⟩
end Go.Proofs.Ytgbnnepbnahecaa
