import Derived.Test.YtmljljpldljpjaaBndI
import Derived.Test.YtmljljpldljpjaaAs
/-
  faultOf: the looks in their order.
-/
namespace Go.Proofs.Ytmljljpldljpjaa
open Go.RowKit
set_option linter.unusedVariables false
set_option linter.unusedSimpArgs false
set_option maxRecDepth 100000
def orF (o : Option (Nat × Nat)) (x : Int) (d : Nat × Nat × Int) : Nat × Nat × Int := match o with | some (i, k) => (i, k, x) | none => d
/-- the first fault: its resource, its line, its number -/
def fltF (C : List Rs) (o1 o2 o3 o4 : Option (Nat × Nat)) : Nat × Nat × Int :=
  if astF C ≠ C.length then (astF C, 0, 2) else if 64 < C.length then (0, 0, 124) else orF o1 140 (orF o2 141 (orF o3 142 (orF o4 143 (0, 0, 0))))
def fltV (x : Nat × Nat × Int) : Value := .agg #[.int .i64 x.1, .int .i64 x.2.1, .int .i64 x.2.2]
set_option maxHeartbeats 32000000 in
theorem faultOf_any (w : World) (a : Option Addr) (n c : Nat) (os : List Rx) (o1 o2 o3 o4 : Option (Nat × Nat)) (hL : Lr w a os) (hn : os.length = n) (hs : n ≤ 4194304)
    (h1 : astF (os.map Rx.toRs) = n → n ≤ 64 → ∀ W, Below w.heap.size w W → Calls Try.prog 48 #[.slice a n c] W fun e w' => FaE W (faV o1 140) e w')
    (h2 : astF (os.map Rx.toRs) = n → n ≤ 64 → o1 = none → ∀ W, Below w.heap.size w W → Calls Try.prog 49 #[.slice a n c] W fun e w' => FaE W (faV o2 141) e w')
    (h3 : astF (os.map Rx.toRs) = n → n ≤ 64 → o1 = none → ∀ W, Below w.heap.size w W → Calls Try.prog 50 #[.slice a n c] W fun e w' => FaE W (faV o3 142) e w')
    (h4 : astF (os.map Rx.toRs) = n → n ≤ 64 → o1 = none → ∀ W, Below w.heap.size w W → Calls Try.prog 51 #[.slice a n c] W fun e w' => FaE W (faV o4 143) e w') :
    Calls Try.prog 31 #[.slice a n c] w fun e w' => FaE w (fltV (fltF (os.map Rx.toRs) o1 o2 o3 o4)) e w' := by
  have HL := hideL hL
  have HN := hideL hn
  clear hL hn
  obtain ⟨A, hA⟩ : ∃ A, astF (os.map Rx.toRs) = A := ⟨_, rfl⟩
  rw [hA] at h1 h2 h3 h4
  have hAl : A ≤ n := by have := astF_le (os.map Rx.toRs); rw [hA] at this; simpa [HN.out] using this
  have HAS : Hid (∀ W, Below w.heap.size w W → Calls Try.prog 36 #[.slice a n c] W fun e w' => e = .returned (.int .i64 A) ∧ Gr W w') := fun W hW => by
    have := astray_any W a n c os (HL.out.below hW) HN.out (by omega)
    rw [hA] at this
    exact this
  obtain ⟨R, hR⟩ : ∃ R, fltF (os.map Rx.toRs) o1 o2 o3 o4 = R := ⟨_, rfl⟩
  have HR : Hid (∀ x : Nat × Nat × Int, (if A ≠ n then (A, 0, 2) else if 64 < n then (0, 0, 124) else orF o1 140 (orF o2 141 (orF o3 142 (orF o4 143 (0, 0, 0))))) = x → R = x) := fun x h => by
    rw [← hR, ← h]
    unfold fltF
    rw [hA, List.length_map, HN.out]
  rw [hR]
  clear hR hA
  obtain ⟨w1, hw1⟩ : ∃ X, w.alloc f0 = X := ⟨_, rfl⟩
  have HB1 : Hid (Below w.heap.size w w1) := by rw [← hw1]; exact (Gr.alloc _ _).below
  have HX1 : Hid (w1.heap[w.heap.size]? = some f0) := by rw [← hw1]; exact heap_alloc_new w _
  unfold f0 at hw1
  obtain ⟨B, hB⟩ : ∃ B, w.heap.size = B := ⟨_, rfl⟩
  rw [hB] at HX1
  go_enter Try.func31, Try.ntmps31
  go_wp2_with fail
  refine (HAS.out w1 HB1.out).mono ?_
  rintro e w2 ⟨rfl, hg2⟩
  have HX2 := hideL (hg2.below.cells HX1.out)
  have HB2 := hideL (HB1.out.trans (hg2.below.mono HB1.out.size))
  clear hg2 hw1 HX1
  by_cases hAn : A = n
  · subst hAn
    by_cases h64 : 64 < A
    · have h64' : (64 : Int) < A := by omega
      have HE : Hid (R = (0, 0, 124)) := HR.out _ (by rw [if_neg (fun h => h rfl), if_pos h64])
      obtain ⟨⟨f0, f1, f2⟩, ⟨g0, g1, g2⟩, ⟨k0, k1, k2⟩, hbut, -⟩ := set3 HX2.out (.int .i64 0) (.int .i64 0) (.int .i64 124)
      have HBT := hideL hbut
      clear hbut
      go_wp2
      refine bodyPost_ret (v := .agg #[.int .i64 0, .int .i64 0, .int .i64 124]) (by simp [results, Try.results31, go_sem, k0, k1, k2]) rfl ⟨by rw [HE.out]; rfl, ?_⟩
      exact HB2.out.trans (HBT.out.below HB2.out.size (by omega))
    · have h64' : ¬ (64 : Int) < A := by omega
      replace h1 := hideL (h1 rfl (by omega))
      replace h2 := hideL (h2 rfl (by omega))
      replace h3 := hideL (h3 rfl (by omega))
      replace h4 := hideL (h4 rfl (by omega))
      replace HR : Hid (∀ x : Nat × Nat × Int, orF o1 140 (orF o2 141 (orF o3 142 (orF o4 143 (0, 0, 0)))) = x → R = x) := fun x h => HR.out x (by rw [if_neg (fun h => h rfl), if_neg h64]; exact h)
      go_wp2_with fail
      obtain ⟨w3, hw3⟩ : ∃ X, w2.alloc (.cells #[.func (.func 48) #[] #[], .func (.func 49) #[] #[], .func (.func 50) #[] #[], .func (.func 51) #[] #[]] 66 (0, 0)) = X := ⟨_, rfl⟩
      have HG3 : Hid (Gr w2 w3) := by rw [← hw3]; exact Gr.alloc _ _
      have HY3 : Hid (w3.heap[w2.heap.size]? = some (.cells #[.func (.func 48) #[] #[], .func (.func 49) #[] #[], .func (.func 50) #[] #[], .func (.func 51) #[] #[]] 66 (0, 0))) := by rw [← hw3]; exact heap_alloc_new w2 _
      have HB3 := hideL (HB2.out.trans (HG3.out.below.mono HB2.out.size))
      have HX3 := hideL (HG3.out.below.cells HX2.out)
      rw [hw3]
      clear hw3
      obtain ⟨G, hG⟩ : ∃ G, w2.heap.size = G := ⟨_, rfl⟩
      rw [hG] at HY3 ⊢
      clear HG3 HX2 HB2 hG HAS hs
      refine wp_loop_rounds 5 ?_
      rw [rounds_succ]
      have y1 : w3.cell? ⟨G, 0, none⟩ = some (.func (.func 48) #[] #[]) := by rw [cell_block HY3.out]; rfl
      have HC1 := hideL (h1.out w3 HB3.out)
      rcases o1 with _ | ⟨i, k⟩
      rotate_left
      · have HE : Hid (R = (i, k, 140)) := HR.out _ rfl
        unfold faV at HC1
        dsimp only at HC1
        go_wp2_with fail
        refine HC1.out.mono ?_
        rintro e w4 ⟨rfl, hb4⟩
        obtain ⟨w5, hw5⟩ : ∃ X, w4.alloc (.cells #[.int .i64 i, .int .i64 k, .int .i64 140] 33 (0, 0)) = X := ⟨_, rfl⟩
        have HB5 : Hid (Below w.heap.size w w5) := by rw [← hw5]; exact (HB3.out.trans (hb4.mono HB3.out.size)).trans ((Gr.alloc _ _).below.mono (HB3.out.trans (hb4.mono HB3.out.size)).size)
        have HX5 : Hid (w5.heap[B]? = some Go.Proofs.Ytmljljpldljpjaa.f0) := by rw [← hw5]; exact (Gr.alloc _ _).below.cells (hb4.cells HX3.out)
        have z0 : w5.cell? ⟨w4.heap.size, 0, none⟩ = some (.int .i64 i) := by rw [← hw5, cell_block (heap_alloc_new w4 _)]; rfl
        have z1 : w5.cell? ⟨w4.heap.size, 1, none⟩ = some (.int .i64 k) := by rw [← hw5, cell_block (heap_alloc_new w4 _)]; rfl
        have z2 : w5.cell? ⟨w4.heap.size, 2, none⟩ = some (.int .i64 140) := by rw [← hw5, cell_block (heap_alloc_new w4 _)]; rfl
        obtain ⟨⟨f0, f1, f2⟩, ⟨g0, g1, g2⟩, ⟨k0, k1, k2⟩, hbut, -⟩ := set3 HX5.out (.int .i64 i) (.int .i64 k) (.int .i64 140)
        have HBT := hideL hbut
        clear hbut hb4 HX5
        go_wp2
        refine bodyPost_ret (v := .agg #[.int .i64 i, .int .i64 k, .int .i64 140]) (by simp [results, Try.results31, go_sem, k0, k1, k2]) rfl ⟨by rw [HE.out]; rfl, ?_⟩
        exact HB5.out.trans (HBT.out.below HB5.out.size (by omega))
      have HO1 : Hid ((none : Option (Nat × Nat)) = none) := rfl
      unfold faV at HC1
      dsimp only at HC1
      go_wp2_with fail
      refine HC1.out.mono ?_
      rintro e w4 ⟨rfl, hb4⟩
      go_wp2_with fail
      obtain ⟨w13, hw13⟩ : ∃ X, w4.alloc (.cells #[.int .i64 0, .int .i64 0, .int .i64 0] 33 (0, 0)) = X := ⟨_, rfl⟩
      rw [hw13]
      have HB13 : Hid (Below w.heap.size w w13) := by rw [← hw13]; exact (HB3.out.trans (hb4.mono HB3.out.size)).trans ((Gr.alloc _ _).below.mono (HB3.out.trans (hb4.mono HB3.out.size)).size)
      have HX13 : Hid (w13.heap[B]? = some Go.Proofs.Ytmljljpldljpjaa.f0) := by rw [← hw13]; exact (Gr.alloc _ _).below.cells (hb4.cells HX3.out)
      have HY13 : Hid (w13.heap[G]? = some (.cells #[.func (.func 48) #[] #[], .func (.func 49) #[] #[], .func (.func 50) #[] #[], .func (.func 51) #[] #[]] 66 (0, 0))) := by rw [← hw13]; exact (Gr.alloc _ _).below.cells (hb4.cells HY3.out)
      clear hb4 HX3 HY3 HB3 y1 HC1
      clear hw13
      rw [rounds_succ]
      have y2 : w13.cell? ⟨G, 1, none⟩ = some (.func (.func 49) #[] #[]) := by rw [cell_block HY13.out]; rfl
      have HC2 := hideL (h2.out HO1.out w13 HB13.out)
      rcases o2 with _ | ⟨i, k⟩
      rotate_left
      · have HE : Hid (R = (i, k, 141)) := HR.out _ rfl
        unfold faV at HC2
        dsimp only at HC2
        go_wp2_with fail
        refine HC2.out.mono ?_
        rintro e w4 ⟨rfl, hb4⟩
        obtain ⟨w5, hw5⟩ : ∃ X, w4.alloc (.cells #[.int .i64 i, .int .i64 k, .int .i64 141] 33 (0, 0)) = X := ⟨_, rfl⟩
        have HB5 : Hid (Below w.heap.size w w5) := by rw [← hw5]; exact (HB13.out.trans (hb4.mono HB13.out.size)).trans ((Gr.alloc _ _).below.mono (HB13.out.trans (hb4.mono HB13.out.size)).size)
        have HX5 : Hid (w5.heap[B]? = some Go.Proofs.Ytmljljpldljpjaa.f0) := by rw [← hw5]; exact (Gr.alloc _ _).below.cells (hb4.cells HX13.out)
        have z0 : w5.cell? ⟨w4.heap.size, 0, none⟩ = some (.int .i64 i) := by rw [← hw5, cell_block (heap_alloc_new w4 _)]; rfl
        have z1 : w5.cell? ⟨w4.heap.size, 1, none⟩ = some (.int .i64 k) := by rw [← hw5, cell_block (heap_alloc_new w4 _)]; rfl
        have z2 : w5.cell? ⟨w4.heap.size, 2, none⟩ = some (.int .i64 141) := by rw [← hw5, cell_block (heap_alloc_new w4 _)]; rfl
        obtain ⟨⟨f0, f1, f2⟩, ⟨g0, g1, g2⟩, ⟨k0, k1, k2⟩, hbut, -⟩ := set3 HX5.out (.int .i64 i) (.int .i64 k) (.int .i64 141)
        have HBT := hideL hbut
        clear hbut hb4 HX5
        go_wp2
        refine bodyPost_ret (v := .agg #[.int .i64 i, .int .i64 k, .int .i64 141]) (by simp [results, Try.results31, go_sem, k0, k1, k2]) rfl ⟨by rw [HE.out]; rfl, ?_⟩
        exact HB5.out.trans (HBT.out.below HB5.out.size (by omega))
      unfold faV at HC2
      dsimp only at HC2
      go_wp2_with fail
      refine HC2.out.mono ?_
      rintro e w4 ⟨rfl, hb4⟩
      go_wp2_with fail
      obtain ⟨w23, hw23⟩ : ∃ X, w4.alloc (.cells #[.int .i64 0, .int .i64 0, .int .i64 0] 33 (0, 0)) = X := ⟨_, rfl⟩
      rw [hw23]
      have HB23 : Hid (Below w.heap.size w w23) := by rw [← hw23]; exact (HB13.out.trans (hb4.mono HB13.out.size)).trans ((Gr.alloc _ _).below.mono (HB13.out.trans (hb4.mono HB13.out.size)).size)
      have HX23 : Hid (w23.heap[B]? = some Go.Proofs.Ytmljljpldljpjaa.f0) := by rw [← hw23]; exact (Gr.alloc _ _).below.cells (hb4.cells HX13.out)
      have HY23 : Hid (w23.heap[G]? = some (.cells #[.func (.func 48) #[] #[], .func (.func 49) #[] #[], .func (.func 50) #[] #[], .func (.func 51) #[] #[]] 66 (0, 0))) := by rw [← hw23]; exact (Gr.alloc _ _).below.cells (hb4.cells HY13.out)
      clear hb4 HX13 HY13 HB13 y2 HC2
      clear hw23
      rw [rounds_succ]
      have y3 : w23.cell? ⟨G, 2, none⟩ = some (.func (.func 50) #[] #[]) := by rw [cell_block HY23.out]; rfl
      have HC3 := hideL (h3.out HO1.out w23 HB23.out)
      rcases o3 with _ | ⟨i, k⟩
      rotate_left
      · have HE : Hid (R = (i, k, 142)) := HR.out _ rfl
        unfold faV at HC3
        dsimp only at HC3
        go_wp2_with fail
        refine HC3.out.mono ?_
        rintro e w4 ⟨rfl, hb4⟩
        obtain ⟨w5, hw5⟩ : ∃ X, w4.alloc (.cells #[.int .i64 i, .int .i64 k, .int .i64 142] 33 (0, 0)) = X := ⟨_, rfl⟩
        have HB5 : Hid (Below w.heap.size w w5) := by rw [← hw5]; exact (HB23.out.trans (hb4.mono HB23.out.size)).trans ((Gr.alloc _ _).below.mono (HB23.out.trans (hb4.mono HB23.out.size)).size)
        have HX5 : Hid (w5.heap[B]? = some Go.Proofs.Ytmljljpldljpjaa.f0) := by rw [← hw5]; exact (Gr.alloc _ _).below.cells (hb4.cells HX23.out)
        have z0 : w5.cell? ⟨w4.heap.size, 0, none⟩ = some (.int .i64 i) := by rw [← hw5, cell_block (heap_alloc_new w4 _)]; rfl
        have z1 : w5.cell? ⟨w4.heap.size, 1, none⟩ = some (.int .i64 k) := by rw [← hw5, cell_block (heap_alloc_new w4 _)]; rfl
        have z2 : w5.cell? ⟨w4.heap.size, 2, none⟩ = some (.int .i64 142) := by rw [← hw5, cell_block (heap_alloc_new w4 _)]; rfl
        obtain ⟨⟨f0, f1, f2⟩, ⟨g0, g1, g2⟩, ⟨k0, k1, k2⟩, hbut, -⟩ := set3 HX5.out (.int .i64 i) (.int .i64 k) (.int .i64 142)
        have HBT := hideL hbut
        clear hbut hb4 HX5
        go_wp2
        refine bodyPost_ret (v := .agg #[.int .i64 i, .int .i64 k, .int .i64 142]) (by simp [results, Try.results31, go_sem, k0, k1, k2]) rfl ⟨by rw [HE.out]; rfl, ?_⟩
        exact HB5.out.trans (HBT.out.below HB5.out.size (by omega))
      unfold faV at HC3
      dsimp only at HC3
      go_wp2_with fail
      refine HC3.out.mono ?_
      rintro e w4 ⟨rfl, hb4⟩
      go_wp2_with fail
      obtain ⟨w33, hw33⟩ : ∃ X, w4.alloc (.cells #[.int .i64 0, .int .i64 0, .int .i64 0] 33 (0, 0)) = X := ⟨_, rfl⟩
      rw [hw33]
      have HB33 : Hid (Below w.heap.size w w33) := by rw [← hw33]; exact (HB23.out.trans (hb4.mono HB23.out.size)).trans ((Gr.alloc _ _).below.mono (HB23.out.trans (hb4.mono HB23.out.size)).size)
      have HX33 : Hid (w33.heap[B]? = some Go.Proofs.Ytmljljpldljpjaa.f0) := by rw [← hw33]; exact (Gr.alloc _ _).below.cells (hb4.cells HX23.out)
      have HY33 : Hid (w33.heap[G]? = some (.cells #[.func (.func 48) #[] #[], .func (.func 49) #[] #[], .func (.func 50) #[] #[], .func (.func 51) #[] #[]] 66 (0, 0))) := by rw [← hw33]; exact (Gr.alloc _ _).below.cells (hb4.cells HY23.out)
      clear hb4 HX23 HY23 HB23 y3 HC3
      clear hw33
      rw [rounds_succ]
      have y4 : w33.cell? ⟨G, 3, none⟩ = some (.func (.func 51) #[] #[]) := by rw [cell_block HY33.out]; rfl
      have HC4 := hideL (h4.out HO1.out w33 HB33.out)
      rcases o4 with _ | ⟨i, k⟩
      rotate_left
      · have HE : Hid (R = (i, k, 143)) := HR.out _ rfl
        unfold faV at HC4
        dsimp only at HC4
        go_wp2_with fail
        refine HC4.out.mono ?_
        rintro e w4 ⟨rfl, hb4⟩
        obtain ⟨w5, hw5⟩ : ∃ X, w4.alloc (.cells #[.int .i64 i, .int .i64 k, .int .i64 143] 33 (0, 0)) = X := ⟨_, rfl⟩
        have HB5 : Hid (Below w.heap.size w w5) := by rw [← hw5]; exact (HB33.out.trans (hb4.mono HB33.out.size)).trans ((Gr.alloc _ _).below.mono (HB33.out.trans (hb4.mono HB33.out.size)).size)
        have HX5 : Hid (w5.heap[B]? = some Go.Proofs.Ytmljljpldljpjaa.f0) := by rw [← hw5]; exact (Gr.alloc _ _).below.cells (hb4.cells HX33.out)
        have z0 : w5.cell? ⟨w4.heap.size, 0, none⟩ = some (.int .i64 i) := by rw [← hw5, cell_block (heap_alloc_new w4 _)]; rfl
        have z1 : w5.cell? ⟨w4.heap.size, 1, none⟩ = some (.int .i64 k) := by rw [← hw5, cell_block (heap_alloc_new w4 _)]; rfl
        have z2 : w5.cell? ⟨w4.heap.size, 2, none⟩ = some (.int .i64 143) := by rw [← hw5, cell_block (heap_alloc_new w4 _)]; rfl
        obtain ⟨⟨f0, f1, f2⟩, ⟨g0, g1, g2⟩, ⟨k0, k1, k2⟩, hbut, -⟩ := set3 HX5.out (.int .i64 i) (.int .i64 k) (.int .i64 143)
        have HBT := hideL hbut
        clear hbut hb4 HX5
        go_wp2
        refine bodyPost_ret (v := .agg #[.int .i64 i, .int .i64 k, .int .i64 143]) (by simp [results, Try.results31, go_sem, k0, k1, k2]) rfl ⟨by rw [HE.out]; rfl, ?_⟩
        exact HB5.out.trans (HBT.out.below HB5.out.size (by omega))
      unfold faV at HC4
      dsimp only at HC4
      go_wp2_with fail
      refine HC4.out.mono ?_
      rintro e w4 ⟨rfl, hb4⟩
      go_wp2_with fail
      obtain ⟨w43, hw43⟩ : ∃ X, w4.alloc (.cells #[.int .i64 0, .int .i64 0, .int .i64 0] 33 (0, 0)) = X := ⟨_, rfl⟩
      rw [hw43]
      have HB43 : Hid (Below w.heap.size w w43) := by rw [← hw43]; exact (HB33.out.trans (hb4.mono HB33.out.size)).trans ((Gr.alloc _ _).below.mono (HB33.out.trans (hb4.mono HB33.out.size)).size)
      have HX43 : Hid (w43.heap[B]? = some Go.Proofs.Ytmljljpldljpjaa.f0) := by rw [← hw43]; exact (Gr.alloc _ _).below.cells (hb4.cells HX33.out)
      have HY43 : Hid (w43.heap[G]? = some (.cells #[.func (.func 48) #[] #[], .func (.func 49) #[] #[], .func (.func 50) #[] #[], .func (.func 51) #[] #[]] 66 (0, 0))) := by rw [← hw43]; exact (Gr.alloc _ _).below.cells (hb4.cells HY33.out)
      clear hb4 HX33 HY33 HB33 y4 HC4
      clear hw43
      rw [rounds_succ]
      have HE : Hid (R = (0, 0, 0)) := HR.out _ rfl
      obtain ⟨⟨f0, f1, f2⟩, ⟨g0, g1, g2⟩, ⟨k0, k1, k2⟩, hbut, -⟩ := set3 HX43.out (.int .i64 0) (.int .i64 0) (.int .i64 0)
      have HBT := hideL hbut
      clear hbut
      go_wp2
      refine bodyPost_ret (v := .agg #[.int .i64 0, .int .i64 0, .int .i64 0]) (by simp [results, Try.results31, go_sem, k0, k1, k2]) rfl ⟨by rw [HE.out]; rfl, ?_⟩
      exact HB43.out.trans (HBT.out.below HB43.out.size (by omega))
  · have hAn' : (A : Int) < n := by omega
    have HE : Hid (R = (A, 0, 2)) := HR.out _ (by rw [if_pos hAn])
    obtain ⟨⟨f0, f1, f2⟩, ⟨g0, g1, g2⟩, ⟨k0, k1, k2⟩, hbut, -⟩ := set3 HX2.out (.int .i64 A) (.int .i64 0) (.int .i64 2)
    have HBT := hideL hbut
    clear hbut hAn
    go_wp2
    refine bodyPost_ret (v := .agg #[.int .i64 A, .int .i64 0, .int .i64 2]) (by simp [results, Try.results31, go_sem, k0, k1, k2]) rfl ⟨by rw [HE.out]; rfl, ?_⟩
    exact HB2.out.trans (HBT.out.below HB2.out.size (by omega))
end Go.Proofs.Ytmljljpldljpjaa

/-
  Check.
-/
namespace Go.Proofs.Ytmljljpldljpjaa
open Go.RowKit
set_option linter.unusedVariables false
set_option linter.unusedSimpArgs false
set_option maxRecDepth 100000
theorem f3_cells {W : World} {b : Nat} {x0 x1 x2 : Value} {t : TypeId} (h : W.heap[b]? = some (.cells #[x0, x1, x2] t (0, 0))) : W.cell? ⟨b, 0, none⟩ = some x0 ∧ W.cell? ⟨b, 1, none⟩ = some x1 ∧ W.cell? ⟨b, 2, none⟩ = some x2 := by
  refine ⟨?_, ?_, ?_⟩ <;> (rw [cell_block h]; rfl)
/-- what Check tells of a fault -/
def ChB (w : World) (x : Nat × Nat × Int) (e : Ending) (w' : World) : Prop := e = .returned (.tuple #[.slice none 0 0, fltV x]) ∧ Below w.heap.size w w'
set_option maxHeartbeats 16000000 in
theorem check_bad (w : World) (a : Option Addr) (n c : Nat) (x : Nat × Nat × Int) (hx : x.2.2 ≠ 0)
    (hF : ∀ W, Below w.heap.size w W → Calls Try.prog 31 #[.slice a n c] W fun e w' => FaE W (fltV x) e w') :
    Calls Try.prog 14 #[.slice a n c] w fun e w' => ChB w x e w' := by
  have HF := hideL hF
  obtain ⟨i, k, x⟩ := x
  unfold fltV at HF
  unfold ChB fltV
  dsimp only at HF hx ⊢
  have hx' : (x != 0) = true := by simpa using hx
  obtain ⟨w1, hw1⟩ : ∃ X, w.alloc f0 = X := ⟨_, rfl⟩
  have HB1 : Hid (Below w.heap.size w w1) := by rw [← hw1]; exact (Gr.alloc _ _).below
  have HX1 : Hid (w1.heap[w.heap.size]? = some f0) := by rw [← hw1]; exact heap_alloc_new w _
  unfold f0 at hw1
  obtain ⟨B, hB⟩ : ∃ B, w.heap.size = B := ⟨_, rfl⟩
  rw [hB] at HX1
  clear hF hx
  go_enter Try.func14, Try.ntmps14
  go_wp2_with fail
  refine (HF.out w1 HB1.out).mono ?_
  rintro e w2 ⟨rfl, hb2⟩
  have HX2 := hideL (hb2.cells HX1.out)
  have HB2 := hideL (HB1.out.trans (hb2.mono HB1.out.size))
  clear hb2 hw1 HX1
  go_wp2_with fail
  obtain ⟨w3, hw3⟩ : ∃ X, w2.alloc (.cells #[.int .i64 i, .int .i64 k, .int .i64 x] 33 (0, 0)) = X := ⟨_, rfl⟩
  rw [hw3]
  have HB3 : Hid (Below w.heap.size w w3) := by rw [← hw3]; exact HB2.out.trans ((Gr.alloc _ _).below.mono HB2.out.size)
  have HX3 : Hid (w3.heap[B]? = some f0) := by rw [← hw3]; exact (Gr.alloc _ _).below.cells HX2.out
  obtain ⟨z0, z1, z2⟩ : w3.cell? ⟨w2.heap.size, 0, none⟩ = some (.int .i64 i) ∧ w3.cell? ⟨w2.heap.size, 1, none⟩ = some (.int .i64 k) ∧ w3.cell? ⟨w2.heap.size, 2, none⟩ = some (.int .i64 x) := by
    rw [← hw3]; exact f3_cells (heap_alloc_new w2 _)
  clear hw3
  obtain ⟨⟨f0, f1, f2⟩, ⟨g0, g1, g2⟩, ⟨k0, k1, k2⟩, hbut, -⟩ := set3 HX3.out (.int .i64 i) (.int .i64 k) (.int .i64 x)
  have HBT := hideL hbut
  clear hbut
  go_region
  go_wp2
  refine bodyPost_ret (v := .tuple #[.slice none 0 0, .agg #[.int .i64 i, .int .i64 k, .int .i64 x]]) (by simp [results, Try.results14, go_sem, k0, k1, k2]) rfl ⟨rfl, ?_⟩
  exact (HB3.out.trans (HBT.out.below HB3.out.size (by omega))).trans ((Gr.drewN _ 1).below.mono (HB3.out.trans (HBT.out.below HB3.out.size (by omega))).size)
end Go.Proofs.Ytmljljpldljpjaa
