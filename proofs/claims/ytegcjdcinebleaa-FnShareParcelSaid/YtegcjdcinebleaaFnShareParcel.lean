/-
  For every code the law FnShareParcel returns true: impl.ParcelShare answers as the reference model does; the share of a part is above 0 and below 1, and the shares of both parts, the second from the corners begun elsewhere, make 1. No condition: every list of bytes is taken.
-/
import Derived.Test.YtegcjdcinebleaaPka
import Derived.Test.YtegcjdcinebleaaPkd
import Derived.Test.YtegcjdcinebleaaPkb
import Derived.Test.YtegcjdcinebleaaCode
namespace Go.Proofs.Ytegcjdcinebleaa.fnShareParcel
open Go.ChangeShapes Go.WideShapes Go.ChangeAt Go.RowKit Poly
set_option linter.unusedVariables false

theorem whole_is (x : Int) (w : World) :
    Calls Try.prog 47 #[.int .i64 x] w fun e w' => e = .returned (.agg #[.int .i64 x, .int .i64 1]) ∧ Below w.heap.size w w' := by
  go_enter Try.func47, Try.ntmps47
  go_wp2_with fail
  refine bodyPost_ret (v := .agg #[.int .i64 x, .int .i64 1]) (by simp [results, Try.results47, go_sem]) rfl ⟨rfl, (by repeat (first | assumption | exact Below.refl _ _ | (refine below_chain ?_ (by assumption) (by first | omega | (simp <;> omega) | simp)) | (refine Below.alloc ?_ (by first | omega | (simp <;> omega) | simp) _) | (apply below_drewN) | (apply below_drew) | (refine Below.setCell ?_ (by first | omega | (simp <;> omega) | simp) _)))⟩
theorem add_is (t l s m x y : Int) (c : Bool) (w : World) (h : Quo.gT (Quo.both t l s m) (t * m + s * l) (l * m) = x ∧ Quo.gL (Quo.both t l s m) (t * m + s * l) (l * m) = y ∧ Quo.gOk (Quo.both t l s m) (t * m + s * l) (l * m) = c) :
    Calls Try.prog 46 #[.agg #[.int .i64 t, .int .i64 l], .agg #[.int .i64 s, .int .i64 m]] w fun e w' => e = .returned (.tuple #[.agg #[.int .i64 x, .int .i64 y], .bool c]) ∧ Below w.heap.size w w' := by
  rw [← h.1, ← h.2.1, ← h.2.2]; exact iAdd_any t l s m w
theorem share_n {p : Option Addr} {c n i j : Nat} {k k0 : Int} {L : List P2} {t l a z : Int} {b : Bool} {w : World} (h : Ints w p (fl L)) (hn : L.length = n) (hc : n ≤ c) (hv : parV L = true) (hk0 : k0 = i) (hk : k = j) (hij : i < j) (hj : j < n) (hA : parV (splA L i j) = true) (hB : parV (splB L i j) = true)
    (ha : areaL (splA L i j) = a) (hz : areaL L = z) (ht : Quo.rT a z = t) (hl : Quo.rL a z = l) (hb : Quo.rOk a z = b) :
    Calls Try.prog 44 #[.slice p n c, .int .i64 k0, .int .i64 k] w fun e w' => e = .returned (.tuple #[.agg #[.int .i64 t, .int .i64 l], .bool b]) ∧ Below w.heap.size w w' := by
  subst hn ha hz ht hl hb hk hk0; exact iParcelShare_yes h hc hv i j hij hj hA hB
theorem sshare_n {p : Option Addr} {c i j : Nat} {L : List P2} {t l a z : Int} {b : Bool} {w : World} (h : Ints w p (fl L)) (hc : L.length ≤ c) (hv : parV L = true) (hij : i < j) (hj : j < L.length) (hA : parV (splA L i j) = true) (hB : parV (splB L i j) = true)
    (ha : areaL (splA L i j) = a) (hz : areaL L = z) (ht : Quo.rT a z = t) (hl : Quo.rL a z = l) (hb : Quo.rOk a z = b) :
    Calls Try.prog 45 #[.slice p L.length c, .int .i64 i, .int .i64 j] w fun e w' => e = .returned (.tuple #[.agg #[.int .i64 t, .int .i64 l], .bool b]) ∧ Below w.heap.size w w' := by
  subst ha hz ht hl hb; exact sShare_yes h hv hc i j hij hj hA hB
set_option maxHeartbeats 16000000 in
set_option maxRecDepth 100000 in
theorem walk (len cap : Nat) (p : Option Addr) (w : World) (hl : len ≤ 1048576) (h : Hid (Code' w (.slice p len cap))) :
    Calls Try.prog 9 #[.slice p len cap] w fun e w' => e = .returned (.bool true) ∧ Below w.heap.size w w' := by
  have hl' : ¬ (1048576 : Int) < (len : Int) := by omega
  go_enter Try.func9, Try.ntmps9
  go_upto_region 4 with (go_at_call 43; (with_reducible refine (drawParcelShare_is _ _ h).mono ?_); rintro e wd ⟨L, q, c, i, j, rfl, ⟨hc, h12, i0, i1, j0, j1⟩, hI, hb_wd⟩; have hs_wd := hb_wd.size)
  clear h
  have H := Lib.hid hI
  cases hs : splOk L i j
  · have c1 := fun w h => Lib.hid (iParcelShare_no (p := q) (c := c) (w := w) (L := L) h hc (by omega) i j hs)
    have c2 := fun w h => Lib.hid (sShare_no (p := q) (c := c) (w := w) (L := L) h hc (by omega) i j hs)
    clear hI hs
    go_wp2_with (first | ((go_at_call 44; (with_reducible refine ((c1 _ ?_).out).mono ?_); (focus ((exact H.out); done)); rintro e wi ⟨rfl, hb_wi⟩; have hs_wi := hb_wi.size; (try simp at hs_wi)); obtain ⟨hc_wi, hf_wi⟩ := bcell hb_wi) | ((go_at_call 45; (with_reducible refine ((c2 _ ?_).out).mono ?_); (focus ((exact H.out.below (by repeat (first | assumption | exact Below.refl _ _ | (refine below_chain ?_ (by assumption) (by first | omega | (simp <;> omega) | simp)) | (refine Below.alloc ?_ (by first | omega | (simp <;> omega) | simp) _) | (apply below_drewN) | (apply below_drew) | (refine Below.setCell ?_ (by first | omega | (simp <;> omega) | simp) _)))); done)); rintro e ws ⟨rfl, hb_ws⟩; have hs_ws := hb_ws.size; (try simp at hs_ws)); obtain ⟨hc_ws, hf_ws⟩ := bcell hb_ws; (have z1 : wi.heap.size < ws.heap.size := by omega)))
    go_ret
    exact ⟨rfl, (by repeat (first | assumption | exact Below.refl _ _ | (refine below_chain ?_ (by assumption) (by first | omega | (simp <;> omega) | simp)) | (refine Below.alloc ?_ (by first | omega | (simp <;> omega) | simp) _) | (apply below_drewN) | (apply below_drew) | (refine Below.setCell ?_ (by first | omega | (simp <;> omega) | simp) _)))⟩
  · obtain ⟨I', J', rfl, rfl, hij, hj, hv, hA, hB⟩ := splOk_nat hs
    have hok := parV_ok hv
    obtain ⟨x, hx⟩ : ∃ x, areaL (splA L I' J') = x := ⟨_, rfl⟩
    obtain ⟨y, hy⟩ : ∃ y, areaL (splB L I' J') = y := ⟨_, rfl⟩
    obtain ⟨z, hz⟩ : ∃ z, areaL L = z := ⟨_, rfl⟩
    cases hro : Quo.rOk x z
    · obtain ⟨t, ht⟩ : ∃ t, Quo.rT x z = t := ⟨_, rfl⟩
      obtain ⟨l, hl⟩ : ∃ l, Quo.rL x z = l := ⟨_, rfl⟩
      have c1 := fun w h => Lib.hid (share_n (p := q) (c := c) (w := w) h rfl hc hv rfl rfl hij hj hA hB hx hz ht hl hro)
      have c2 := fun w h => Lib.hid (sshare_n (p := q) (c := c) (w := w) h hc hv hij hj hA hB hx hz ht hl hro)
      clear hI hs hok hx hy hz hro ht hl hA hB hv hij hj
      go_wp2_with (first | ((go_at_call 44; (with_reducible refine ((c1 _ ?_).out).mono ?_); (focus ((exact H.out); done)); rintro e wi ⟨rfl, hb_wi⟩; have hs_wi := hb_wi.size; (try simp at hs_wi)); obtain ⟨hc_wi, hf_wi⟩ := bcell hb_wi) | ((go_at_call 45; (with_reducible refine ((c2 _ ?_).out).mono ?_); (focus ((exact H.out.below (by repeat (first | assumption | exact Below.refl _ _ | (refine below_chain ?_ (by assumption) (by first | omega | (simp <;> omega) | simp)) | (refine Below.alloc ?_ (by first | omega | (simp <;> omega) | simp) _) | (apply below_drewN) | (apply below_drew) | (refine Below.setCell ?_ (by first | omega | (simp <;> omega) | simp) _)))); done)); rintro e ws ⟨rfl, hb_ws⟩; have hs_ws := hb_ws.size; (try simp at hs_ws)); obtain ⟨hc_ws, hf_ws⟩ := bcell hb_ws; (have z1 : wi.heap.size < ws.heap.size := by omega)))
      go_ret
      exact ⟨rfl, (by repeat (first | assumption | exact Below.refl _ _ | (refine below_chain ?_ (by assumption) (by first | omega | (simp <;> omega) | simp)) | (refine Below.alloc ?_ (by first | omega | (simp <;> omega) | simp) _) | (apply below_drewN) | (apply below_drew) | (refine Below.setCell ?_ (by first | omega | (simp <;> omega) | simp) _)))⟩
    · have hsum := area_split (L := L) hij hj
      rw [hx, hy, hz] at hsum
      have hx0 := parV_area hA
      have hy0 := parV_area hB
      have hzb := area_bd hok
      rw [hx] at hx0
      rw [hy] at hy0
      rw [hz] at hzb
      obtain ⟨l, t, s, ht, hl, ⟨hsT, hsL, hsO⟩, ⟨t0, t1, t2⟩, gT, gL, gO⟩ := Quo.share_sum hx0 hy0 hsum (by omega) hro
      obtain ⟨b1, b2⟩ := beg_split (L := L) hij hj
      have hvM := parV_beg hv hj
      have hzM : areaL (begL L J') = z := by rw [area_beg hj, hz]
      have hlM : (begL L J').length = L.length := beg_len (by omega)
      have c1 := fun w h => Lib.hid (share_n (p := q) (c := c) (w := w) h rfl hc hv rfl rfl hij hj hA hB hx hz ht hl hro)
      have c2 := fun w h => Lib.hid (sshare_n (p := q) (c := c) (w := w) h hc hv hij hj hA hB hx hz ht hl hro)
      have c4 := fun g cp w h hcp => Lib.hid (share_n (p := some ⟨g, 0, none⟩) (c := cp) (n := L.length) (i := 0) (j := L.length - J' + I') (k0 := 0) (k := (L.length : Int) - J' + I') (w := w) (L := begL L J') h hlM hcp hvM rfl (by omega) (by omega) (by omega) (by rw [b1]; exact hB) (by rw [b2]; exact hA) (by rw [b1]; exact hy) hzM hsT hsL hsO)
      have c5 := fun w => Lib.hid (add_is t l s l 1 1 true w ⟨gT, gL, gO⟩)
      obtain ⟨Bq, o, rfl, hBq, -, -⟩ := hI.pt (i := 0) (by omega)
      have c3 := fun w h => Lib.hid (begun_is w Bq o L.length c J' L h (Lib.hid rfl) hj hc h12)
      clear hI hs hok hx hy hz hro ht hl hA hB hv hsum hx0 hy0 hzb hsT hsL hsO gT gL gO b1 b2 hvM hzM hlM
      go_upto_region 10 with (first | ((go_at_call 44; (with_reducible refine ((c1 _ ?_).out).mono ?_); (focus ((exact H.out); done)); rintro e wi ⟨rfl, hb_wi⟩; have hs_wi := hb_wi.size; (try simp at hs_wi)); obtain ⟨hc_wi, hf_wi⟩ := bcell hb_wi) | ((go_at_call 45; (with_reducible refine ((c2 _ ?_).out).mono ?_); (focus ((exact H.out.below (by repeat (first | assumption | exact Below.refl _ _ | (refine below_chain ?_ (by assumption) (by first | omega | (simp <;> omega) | simp)) | (refine Below.alloc ?_ (by first | omega | (simp <;> omega) | simp) _) | (apply below_drewN) | (apply below_drew) | (refine Below.setCell ?_ (by first | omega | (simp <;> omega) | simp) _)))); done)); rintro e ws ⟨rfl, hb_ws⟩; have hs_ws := hb_ws.size; (try simp at hs_ws)); obtain ⟨hc_ws, hf_ws⟩ := bcell hb_ws; (have z1 : wi.heap.size < ws.heap.size := by omega)) | ((go_at_call 23; (with_reducible refine ((c3 _ ?_).out).mono ?_); (focus ((exact H.out.below (by repeat (first | assumption | exact Below.refl _ _ | (refine below_chain ?_ (by assumption) (by first | omega | (simp <;> omega) | simp)) | (refine Below.alloc ?_ (by first | omega | (simp <;> omega) | simp) _) | (apply below_drewN) | (apply below_drew) | (refine Below.setCell ?_ (by first | omega | (simp <;> omega) | simp) _)))); done)); rintro e wg ⟨g1, k1, rfl, hg1, o1, hb_wg⟩; have hs_wg := hb_wg.size; (try simp at hs_wg)); have hcap1 := own_le o1; have O1 := Lib.hid o1; clear o1; obtain ⟨hc_wg, hf_wg⟩ := bcell hb_wg; (have z2 : ws.heap.size < wg.heap.size := by omega)) | ((go_at_call 44; (with_reducible refine ((c4 _ _ _ ?_ hcap1).out).mono ?_); (focus ((exact (O1.out.below (by repeat (first | assumption | exact Below.refl _ _ | (refine below_chain ?_ (by assumption) (by first | omega | (simp <;> omega) | simp)) | (refine Below.alloc ?_ (by first | omega | (simp <;> omega) | simp) _) | (apply below_drewN) | (apply below_drew) | (refine Below.setCell ?_ (by first | omega | (simp <;> omega) | simp) _)))).pts); done)); rintro e wj ⟨rfl, hb_wj⟩; have hs_wj := hb_wj.size; (try simp at hs_wj)); obtain ⟨hc_wj, hf_wj⟩ := bcell hb_wj; (have z3 : ws.heap.size < wj.heap.size := by omega)))
      obtain ⟨V, hV⟩ : ∃ V, V = wj.alloc (.cells #[.int .i64 s, .int .i64 l] 47) := ⟨_, rfl⟩
      obtain ⟨D, hD⟩ : ∃ D, D = wi.heap.size := ⟨_, rfl⟩
      obtain ⟨E, hE⟩ : ∃ E, E = wj.heap.size := ⟨_, rfl⟩
      have u0 : wi.heap.size < wg.heap.size := by omega
      have a0 : wj.cell? ⟨wi.heap.size, 0, none⟩ = some (.int .i64 t) := by (repeat (first | with_reducible assumption | (with_reducible refine cell_below_keep (by with_reducible assumption) ?_) | (with_reducible refine cell_gb_keep (by with_reducible assumption) (by omega) ?_) | (simp [go_sem]; done) | (with_reducible refine cell_alloc_keep _ ?_) | (with_reducible refine cell_drew_keep ?_) | (with_reducible refine cell_drewN_keep _ ?_) | (with_reducible refine cell_set_keep _ (by first | (simp; omega) | omega) ?_)))
      have a1 : wj.cell? ⟨wi.heap.size, 1, none⟩ = some (.int .i64 l) := by (repeat (first | with_reducible assumption | (with_reducible refine cell_below_keep (by with_reducible assumption) ?_) | (with_reducible refine cell_gb_keep (by with_reducible assumption) (by omega) ?_) | (simp [go_sem]; done) | (with_reducible refine cell_alloc_keep _ ?_) | (with_reducible refine cell_drew_keep ?_) | (with_reducible refine cell_drewN_keep _ ?_) | (with_reducible refine cell_set_keep _ (by first | (simp; omega) | omega) ?_)))
      have x0 : V.cell? ⟨D, 0, none⟩ = some (.int .i64 t) := by rw [hV, hD]; exact cell_alloc_keep _ a0
      have x1 : V.cell? ⟨D, 1, none⟩ = some (.int .i64 l) := by rw [hV, hD]; exact cell_alloc_keep _ a1
      have y0 : V.cell? ⟨E, 0, none⟩ = some (.int .i64 s) := by rw [hV, hE]; simp [go_sem]
      have y1 : V.cell? ⟨E, 1, none⟩ = some (.int .i64 l) := by rw [hV, hE]; simp [go_sem]
      have hDV : D < V.heap.size := World.block_lt_of_cell? V _ x0
      have hEV : E < V.heap.size := World.block_lt_of_cell? V _ y0
      have hBV : Below w.heap.size w V := by rw [hV]; exact (by repeat (first | assumption | exact Below.refl _ _ | (refine below_chain ?_ (by assumption) (by first | omega | (simp <;> omega) | simp)) | (refine Below.alloc ?_ (by first | omega | (simp <;> omega) | simp) _) | (apply below_drewN) | (apply below_drew) | (refine Below.setCell ?_ (by first | omega | (simp <;> omega) | simp) _)))
      rw [← hV, ← hD, ← hE]
      have HV := Lib.hid hBV
      have hsV := hBV.size
      clear hV hD hE u0 a0 a1 hBV c1 c2 c3 c4 H O1 hcap1 hg1 hb_wi hb_ws hb_wg hb_wj hs_wi hs_ws hs_wg hs_wj hc_wi hf_wi hc_ws hf_ws hc_wg hf_wg hc_wj hf_wj z1 z2 z3
      go_upto_region 11 with ((go_at_call 46; (with_reducible refine ((c5 _).out).mono ?_); rintro e wk ⟨rfl, hb_wk⟩; have hs_wk := hb_wk.size; (try simp at hs_wk)); obtain ⟨hc_wk, hf_wk⟩ := bcell hb_wk)
      obtain ⟨U, hU⟩ : ∃ U, U = wk.alloc (.cells #[.int .i64 1, .int .i64 1] 47) := ⟨_, rfl⟩
      obtain ⟨F, hF⟩ : ∃ F, F = wk.heap.size := ⟨_, rfl⟩
      have p0 : U.cell? ⟨D, 0, none⟩ = some (.int .i64 t) := by rw [hU]; exact cell_alloc_keep _ (by rw [hc_wk D 0 hDV, x0])
      have p1 : U.cell? ⟨D, 1, none⟩ = some (.int .i64 l) := by rw [hU]; exact cell_alloc_keep _ (by rw [hc_wk D 1 hDV, x1])
      have q0 : U.cell? ⟨F, 0, none⟩ = some (.int .i64 1) := by rw [hU, hF]; simp [go_sem]
      have q1 : U.cell? ⟨F, 1, none⟩ = some (.int .i64 1) := by rw [hU, hF]; simp [go_sem]
      have hDU : D < U.heap.size := World.block_lt_of_cell? U _ p0
      have hFU : F < U.heap.size := World.block_lt_of_cell? U _ q0
      have hBU : Below w.heap.size w U := by rw [hU]; exact (HV.out.trans (hb_wk.mono hsV)).alloc (by omega) _
      rw [← hU, ← hF]
      have HU := Lib.hid hBU
      have hsU := hBU.size
      have c6 := fun w => Lib.hid (whole_is 1 w)
      clear hU hF hBU c5 x0 x1 y0 y1 hb_wk hs_wk hc_wk hf_wk HV hsV hDV hEV
      (refine wp_region_grows (by kernel_rfl) (by kernel_rfl) ?_; intro W_wg hWc_wg hWs_wg hWe_wg; (repeat (go_big_quiet_step ((go_at_call 47; with_reducible exact Ext.call ((c6 _).out))))); with_reducible refine wpQuiet_nil ?_; clear hWe_wg hWs_wg hWc_wg W_wg; intro wg hb_wg; obtain ⟨hc_wg, hf_wg⟩ := bcell hb_wg; (try simp only [World.size_drew, World.cell?_drew, World.frozen?_drew, World.heap_drewN, World.cell?_drewN, World.frozen?_drewN] at hc_wg hf_wg); have hs_wg := hb_wg.size; (try simp at hs_wg))
      go_wp2_with fail
      go_ret
      exact ⟨rfl, HU.out.trans (hb_wg.mono hsU)⟩

set_option maxRecDepth 100000 in
theorem walk_long (len cap : Nat) (p : Option Addr) (w : World) (hl : 1048576 < len) :
    Calls Try.prog 9 #[.slice p len cap] w fun e w' => e = .returned (.bool true) ∧ Below w.heap.size w w' := by
  have hl' : (1048576 : Int) < (len : Int) := by omega
  go_enter Try.func9, Try.ntmps9
  go_wp2
  go_ret
  exact ⟨rfl, Below.refl _ _⟩

set_option maxRecDepth 100000 in
theorem lifted (os : Os) (started : os.Started) (H : Type) (enc : TypeId × Value → H) :
    ReturnsInHanded {} Try.checked os 9 .any (Rows.fnShareParcelSpec.pre6 enc Try.prog Try.f9 Rows.fnShareParcelRow.domain false) (Rows.fnShareParcelSpec.post enc Try.prog Try.f9 false true false false) := by
  refine returnsInHanded_of_change (C := Try.checked) own started (by kernel_rfl) Try.func9
    (ChangeSpec.witness6 (enc := enc) (C := Try.checked) false ⟨#[], #[.slice none 0 0], []⟩ 8 (by kernel_rfl) (by kernel_rfl) (by kernel_rfl) (by kernel_rfl)) ?_
  intro W base args ds gs before hval0 hW hcnd _
  have hval : ∀ (j : Nat) t v, Try.f9.params[j]? = some t → args[j]? = some v → Value.okWide Try.prog W .any base t v := hval0
  have hW' := hW
  obtain ⟨p, q, hA0, hV, rfl, hfz, hnd⟩ := hW
  have hA : DataW.TrodAll enc Try.prog W 0 (fun _ => true) true Try.f9.params.toList args.toList ds p := hA0
  rw [Try.params9] at hA hval
  obtain ⟨v0, vs0, d0, ds0, p0, q0, hargs, rfl, rfl, h0, r0⟩ := trodAll_cons hA
  obtain ⟨rfl, rfl, rfl⟩ := trodAll_nil r0
  obtain rfl : args = #[v0] := by cases args; simp_all
  obtain ⟨rfl, rfl⟩ := trodVars_none hV
  obtain ⟨a0, len0, cap0, rfl⟩ := okWide_slice Try.underlying22 (hval 0 22 v0 rfl rfl)
  have k0 := h0
  have lt0 : ∀ x ∈ p0, x.block < W.heap.size := by obtain ⟨m, hm⟩ := k0; exact DataW.trod_lt m _ _ _ hm
  obtain ⟨z0, w0⟩ : ∃ zs, IsRow .u8 W a0 len0 cap0 zs := by
    obtain ⟨fuel, hf⟩ := h0
    rcases open_ints Try.underlying22 Try.underlying5 (by kernel_rfl) hf with ⟨hcs, _⟩ | ⟨x, l, c, zs, hcs, _, hl, hm, hz, _, hcell, hwz⟩
    · simp [Value.cells] at hcs
      obtain ⟨rfl, rfl, rfl⟩ := hcs
      exact ⟨[], .inl ⟨rfl, rfl, rfl, rfl⟩⟩
    · simp [Value.cells] at hcs
      obtain ⟨rfl, rfl, rfl⟩ := hcs
      exact ⟨zs, .inr ⟨_, rfl, hl, hm, by simpa using hz, hcell, hwz⟩⟩
  clear hA0 hval0
  have hw : Calls Try.prog 9 #[.slice a0 len0 cap0] W fun e w' => e = .returned (.bool true) ∧ Below W.heap.size W w' := by
    by_cases hl : len0 ≤ 1048576
    · exact walk len0 cap0 a0 W hl (Lib.hid (code_of_row w0 hl))
    · exact walk_long len0 cap0 a0 W (by omega)
  refine hw.mono fun e W' ⟨he, bel⟩ => ?_
  subst he
  exact ⟨_, rfl, _, _, _, [], _, [], hW', trodAll_mk1 (shut_bool Try.underlying4 _), (trodAll_cons_mk (Below.trod laidOut (by kernel_rfl) (of_decide_eq_true (by kernel_rfl)) k0 bel lt0) trodAll_mk0), rfl, bel.frame _, fun h => by cases h⟩

theorem over : Rows.fnShareParcelRow.holds Try.pinned (OpenSpec.ofChange Rows.fnShareParcelSpec) :=
  OpenClaim.holds_of_wide 9 Try.f9 rfl rfl rfl rfl rfl rfl rfl ⟨rfl, rfl, rfl, rfl, rfl⟩ rfl rfl rfl rfl rfl (by kernel_rfl) Try.func9 (by unfold joinedFacts; rw [seat_enter, seat_lift, seat_make]; kernel_rfl)
    (of_decide_eq_true (by kernel_rfl)) (by unfold Func.isWrapper; first | (rw [if_pos (by decide +kernel)]; kernel_rfl) | (rw [if_neg (by decide +kernel)]; exact ⟨rfl, rfl⟩))
    (fun os started H enc _ => lifted os started H enc)

theorem proved : Rows.FnShareParcelSaid := over
end Go.Proofs.Ytegcjdcinebleaa.fnShareParcel

