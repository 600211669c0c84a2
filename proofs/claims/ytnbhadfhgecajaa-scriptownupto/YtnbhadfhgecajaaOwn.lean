/-
  The walk of ScriptOwn.
-/
import Derived.Test.YtnbhadfhgecajaaHold
import Derived.Test.YtnbhadfhgecajaaTotal
import Derived.Deep.Cut
import Derived.Deep.DeepCutAuto
import Derived.Maps.AppendAt
namespace Go.Proofs.Ytnbhadfhgecajaa
open Go.RowKit
set_option linter.unusedVariables false

theorem decode_dla (a : Option Addr) (n cap : Nat) (zs : List Int) (w : World) (hP : Bs w a n cap zs) (hl : n ≤ 1099511627776) :
    Calls Try.prog 10 #[.slice a n cap] w fun e w' => ∃ xs av cv, e = .returned (.slice av xs.length cv) ∧ DL w' w.heap.size av cv zs xs ∧ Apart xs ∧ Below w.heap.size w w' := by
  refine (decode_anyA a n cap zs w hP hl).mono ?_
  rintro e w' ⟨xs, v, ⟨h1, h0⟩, rfl, h2, h3, h4⟩
  obtain ⟨av, cv, rfl⟩ := own_shape h2
  exact ⟨xs, av, cv, rfl, ⟨h1, h2, h3⟩, h0, h4⟩

/-- The first bytes of a step's data are its marks. -/
def Marks (j : Nat) (x : Told) (m : Nat) : Prop := ∀ k, k < m → x.s.d.zs.getD k 0 = ((j : Int) * 37 + (k : Int)) % 256
def Filled (i e : Nat) (ts : List Told) : Prop := ∀ (j : Nat) (x : Told), j < i → ts[j]? = some x → Marks j x (x.s.d.n - e)
def Sizes (M : Nat) (ts : List Told) : Prop := ∀ x ∈ ts, x.s.d.n ≤ M

def Mk (i : Nat) (ts : List Told) : Prop := ∀ (j : Nat) (x : Told), ts[j]? = some x → (j < i → 5 ≤ x.s.d.n ∧ Marks j x (x.s.d.n - 5)) ∧ (i ≤ j → Marks j x x.s.d.n)
theorem AS.low0 {W : World} {base m1 m2 cl : Nat} {av : Option Addr} {w0 w3 : World} {ts : List Told} (h : AS W base m1 m2 av cl w0 w3 ts) : base ≤ W.heap.size := Nat.le_trans h.base (Nat.le_trans h.lem h.size)
theorem AS.grown {W w1 : World} {base m1 m2 cl g : Nat} {w0 w3 : World} {ts : List Told} (h : AS W base m1 m2 (.some ⟨g, 0, none⟩) cl w0 w3 ts) (i : Nat) (x : Told) (hx : ts[i]? = .some x) (o : Obj) {v v' : Value} {zs ws : List Int} {m : Nat} (hv : v = x.s.d.val)
    (hown : w1.ownsRow base 5 1 v' (x.s.d.n + m) (vals zs ++ vals ws)) (hg : (W.alloc o).grownBy w1 v.ownBlock) (hat : v'.ownBlock = v.ownBlock ∨ v'.ownBlock = .some (W.alloc o).heap.size) :
    ∃ a' c', v' = .slice a' (x.s.d.n + m) c' ∧ Hid (AS (w1.setCell ⟨g, i * 4 + 3, none⟩ (.slice a' (x.s.d.n + m) c')) base m1 m2 (.some ⟨g, 0, none⟩) cl w0 w3 (ts.set i (x.with ⟨a', x.s.d.n + m, c', zs ++ ws⟩))) ∧ w1.cell? ⟨g, i * 4 + 3, none⟩ = .some x.s.d.val ∧ w1.frozen? ⟨g, i * 4 + 3, none⟩ = false := by
  subst hv
  rw [← vals_append] at hown
  obtain ⟨a', c', rfl⟩ := own_shape hown
  refine ⟨a', c', rfl, h.grow i x hx o a' _ c' (zs ++ ws) hown hg hat, ?_⟩
  have hm := List.mem_of_getElem? hx
  have hL : W.ownsRow base 5 1 x.s.d.val x.s.d.n (vals x.s.d.zs) := h.lies x hm
  have hgl := h.own.lt g rfl
  have hgx : .some g ≠ x.blk := own_apart' h.own hL (by decide) g rfl
  have hown1 : w1.ownsRow base 32 4 (.slice (.some ⟨g, 0, none⟩) ts.length cl) ts.length (ts.flatMap Told.row) := own_blk' h.own (fun k hk => by
    cases hk
    exact (hg.block g (by simp; omega) hgx).trans (Go.heap_alloc_old W _ g hgl.2))
  have hi := (List.getElem?_eq_some_iff.1 hx).1
  exact ⟨by rw [hown1.cellAt (i * 4 + 3) (by omega), flat_get' ts i 3 x hx (by decide)]; rfl, hown1.frozenAt _⟩
theorem mk_next {i : Nat} {us : List Told} {at1 : Nat} {op x1 y1 : Int} {da a6 : Option Addr} {dn dc c6 : Nat} {dz : List Int} (hM : Mk i us) (hX : us[i]? = some ⟨at1, op, x1, y1, ⟨da, dn, dc, dz⟩⟩) (hMx : Marks i ⟨at1, op, x1, y1, ⟨da, dn, dc, dz⟩⟩ dn) (hl : dz.length = dn) :
    Mk (i + 1) (us.set i (Told.with ⟨at1, op, x1, y1, ⟨da, dn, dc, dz⟩⟩ ⟨a6, dn + 5, c6, dz ++ [1, 2, 3, 4, 5]⟩)) := by
  intro j y hjy
  by_cases hji : j = i
  · subst hji
    rw [List.getElem?_set_self (List.getElem?_eq_some_iff.1 hX).1] at hjy
    cases hjy
    refine ⟨fun _ => ⟨by simp [Told.with], fun k hk => ?_⟩, fun h => by omega⟩
    have hk' : k < dn := by simp [Told.with] at hk; exact hk
    have := hMx k hk'
    have e : (dz ++ [1, 2, 3, 4, 5]).getD k 0 = dz.getD k 0 := by simp [List.getD, List.getElem?_append_left (show k < dz.length by omega)]
    show (dz ++ [1, 2, 3, 4, 5]).getD k 0 = _
    rw [e]; exact this
  · rw [List.getElem?_set_ne (by omega)] at hjy
    have := hM j y hjy
    exact ⟨fun h => this.1 (by omega), fun h => this.2 (by omega)⟩
theorem dl_mid {A B : World} {m1 c : Nat} {a : Option Addr} {zs : List Int} {xs : List Told} (h : DL A m1 a c zs xs) (hb : ∀ k, m1 ≤ k → k < A.heap.size → B.heap[k]? = A.heap[k]?) : DL B m1 a c zs xs :=
  ⟨h.all, own_blk' h.own (fun k hk => hb k (h.own.lt k hk).1 (h.own.lt k hk).2), fun x hx => own_block (h.lies x hx) (fun k hk => hb k ((h.lies x hx).lt k hk).1 ((h.lies x hx).lt k hk).2)⟩
theorem after_grow {w1 w2 w3 W W' : World} {o : Obj} {row : Option Nat} {c : Nat} {a : Option Addr} {zs : List Int} {ys : List Told} (hE : DL W w2.heap.size a c zs ys) (hb : Below w1.heap.size w1 W) (h12 : w1.heap.size ≤ w2.heap.size) (h23 : w2.heap.size ≤ w3.heap.size) (h3 : w3.heap.size ≤ W.heap.size) (h1 : w1.heap.size ≤ W.heap.size) (hg : (W.alloc o).grownBy W' row) (hr1 : ∀ k, row = some k → w1.heap.size ≤ k) (hr2 : ∀ k, row = some k → k < w2.heap.size) :
    Below w1.heap.size w1 W' ∧ DL W' w2.heap.size a c zs ys := by
  refine ⟨(hb.alloc h1 o).grown hg (by simp; omega) hr1, dl_mid hE (fun k h4 h5 => ?_)⟩
  exact (hg.block k (by simp; omega) (fun e => by have := hr2 k e.symm; omega)).trans (Go.heap_alloc_old W _ k h5)
theorem enc_dl (W : World) (base : Nat) (a : Option Addr) (c N : Nat) (zs : List Int) (xs : List Told) (hD : DL W base a c zs xs) (hN : xs.length = N) (hz : Octets zs) (hl : zs.length ≤ 1048576) :
    Calls Try.prog 18 #[.slice a N c] W fun e w' => ∃ a1 c1, e = .returned (.tuple #[.slice a1 (formAll (xs.map (·.s))).length c1, .int .i64 0]) ∧ w'.ownsRow W.heap.size 5 1 (.slice a1 (formAll (xs.map (·.s))).length c1) (formAll (xs.map (·.s))).length (vals (formAll (xs.map (·.s)))) ∧ Below W.heap.size W w' := by
  have hmay := row_may hz xs 0 hD.all.1
  have hsum : ((xs.map (·.s)).map fun s => 5 + s.d.n).sum ≤ 5242880 := by
    have := row_sum zs xs 0 hD.all.1
    omega
  have hmay2 : ∀ s ∈ xs.map (·.s), MayBe s ∧ Octets s.d.zs ∧ s.d.zs.length = s.d.n ∧ s.d.n ≤ 65535 := by
    intro s h
    obtain ⟨x, hx, rfl⟩ := List.mem_map.1 h
    exact hmay x hx
  refine (encode_any a N c (xs.map (·.s)) _ (by simpa using hN) (hD.ls hz) (by omega)).mono ?_
  rintro e w1 ⟨hb1, hE⟩
  rcases hE with ⟨_, v, rfl, h2⟩ | ⟨⟨s, h1, h2⟩, _⟩
  · obtain ⟨a1, c1, rfl⟩ := own_shape h2
    exact ⟨a1, c1, rfl, h2, hb1⟩
  · exact absurd (hmay2 s h1).1 h2
theorem form_facts (zs : List Int) (xs : List Told) (h : AllOf zs 0 xs) (hz : Octets zs) (hl : zs.length ≤ 1048576) : Octets (formAll (xs.map (·.s))) ∧ (formAll (xs.map (·.s))).length ≤ 5242880 := by
  have hmay := row_may hz xs 0 h.1
  have hsum : ((xs.map (·.s)).map fun s => 5 + s.d.n).sum ≤ 5242880 := by
    have := row_sum zs xs 0 h.1
    omega
  have hmay2 : ∀ s ∈ xs.map (·.s), MayBe s ∧ Octets s.d.zs ∧ s.d.zs.length = s.d.n ∧ s.d.n ≤ 65535 := by
    intro s h
    obtain ⟨x, hx, rfl⟩ := List.mem_map.1 h
    exact hmay x hx
  refine ⟨formAll_octets _ (fun s h => ⟨(hmay2 s h).1, (hmay2 s h).2.1, (hmay2 s h).2.2.2⟩), ?_⟩
  have := formAll_small (xs.map (·.s)) (fun s h => (hmay2 s h).2.2.1) (xs.map (·.s)).length
  rw [List.take_length] at this; omega
theorem octets_put {zs : List Int} (hz : Octets zs) (i : Nat) (z : Int) (h0 : 0 ≤ z) (h1 : z ≤ 255) : Octets (zs.set i z) := fun j => by
  have := hz j
  simp only [List.getD, List.getElem?_set] at *
  split
  · split
    · simp; omega
    · simp
  · exact this
theorem own_has' {w : World} {base n c : Nat} {a : Option Addr} {zs : List Int} (h : w.ownsRow base 5 1 (.slice a n c) n (vals zs)) : Has w a zs := by
  rcases h.2 with ⟨h1, h2⟩ | ⟨g, cp, cur, h1, _⟩
  · have h3 := h.1
    simp [vals_length, h2] at h3
    injection h1 with h4
    exact .inl ⟨h4, h3⟩
  · injection h1 with h4 h5 h6
    rw [h4] at h ⊢
    exact own_has h
theorem keep_y {W W' w9 w10 w11 : World} {o : Obj} {row : Option Nat} {k : Nat} (hk : w10.heap.size ≤ k ∧ k < w11.heap.size) (hs : w11.heap.size ≤ W.heap.size) (hfr : ∀ k, k < w11.heap.size → some k ≠ row → W.heap[k]? = w11.heap[k]?) (hg : (W.alloc o).grownBy W' row) (hK : ∀ k, row = some k → w9.heap.size ≤ k ∧ k < w10.heap.size) : W'.heap[k]? = w11.heap[k]? := by
  have hne : some k ≠ row := fun e => by have := hK k e.symm; omega
  exact ((hg.block k (by simp; omega) hne).trans (Go.heap_alloc_old W _ k (by omega))).trans (hfr k hk.2 hne)
theorem xs_short (zs : List Int) (xs : List Told) (h : Row1 zs 0 xs) : xs.length ≤ zs.length := by
  have h2 := row_sum zs xs 0 h
  have h4 : ∀ l : List St, 5 * l.length ≤ (l.map fun s => 5 + s.d.n).sum := by
    intro l
    induction l with
    | nil => simp
    | cons x r ih => simp; omega
  have h5 := h4 (xs.map (·.s))
  simp at h5
  simp at h2
  omega
theorem AS.start {w1 w2 w3 : World} {av : Option Addr} {cl : Nat} {zs : List Int} {xs : List Told} (hD : DL w2 w1.heap.size av cl zs xs) (hap : Apart xs) (h12 : Below w1.heap.size w1 w2) (h23 : Below w2.heap.size w2 w3) : AS w3 w1.heap.size w2.heap.size w3.heap.size av cl w1 w3 xs := by
  have hD3 := hD.below h23
  exact ⟨hD3.own, hD3.lies, hap, fun x hx b hb => .inl ((hD.lies x hx).lt b hb).2, fun b hb => (hD.own.lt b hb).2, h12.trans (h23.mono h12.size), fun _ _ _ => rfl, h12.size, h23.size, Nat.le_refl _⟩

set_option maxRecDepth 100000 in
set_option maxHeartbeats 4000000 in
theorem own_any (n : Nat) (zs : List Int) (a : Option Addr) (cap : Nat) (w : World) (hP : Bs w a n cap zs) (hl : n ≤ 1048576) :
    Calls Try.prog 7 #[.slice a n cap] w fun e w' => e = .returned (.bool true) ∧ Below w.heap.size w w' := by
  obtain ⟨i0, hi, hz0, hz1, hz2⟩ := info_parts Try.info5
  obtain ⟨i32, hi32, hy0, hy1, hy2⟩ := info_parts Try.inf32
  go_enter Try.func7, Try.ntmps7
  go_wp2_with fail
  refine (awake_any _).mono ?_
  rintro e wA ⟨rfl, hbA⟩
  have PA := hP.below hbA
  have HPA : Hid (Bs wA a n cap zs) := PA
  go_upto_region 3 with fail
  go_cut [3] (fun v wc => ∃ (a1 : Option Addr) (c1 : Nat), v = .slice a1 n c1 ∧ Bs wc a1 n c1 zs ∧ Below wA.heap.size wA wc)
  case first =>
    have b1 : Below wA.heap.size wA (wA.alloc (.cells #[] 5)) := (Below.refl _ wA).alloc (Nat.le_refl _) _
    have HO : Hid ((wA.alloc (.cells #[] 5)).ownsRow wA.heap.size 5 1 (.slice (some ⟨wA.heap.size, 0, none⟩) 0 0) 0 []) := World.ownsRow_lit wA _ 0 (Nat.le_refl _) (by decide) rfl
    have B1 : Hid (Below wA.heap.size wA (wA.alloc (.cells #[] 5))) := b1
    clear b1
    rcases PA.has with ⟨ha, hzs⟩ | ⟨x, ha, hx⟩
    · subst ha
      obtain rfl := PA.bare rfl
      subst hzs
      have hn0 : n = 0 := by have := PA.len; simpa using this.symm
      subst hn0
      go_wp2_with (at_builtin; refine wpList_append_own_none rfl (.tmp 23) (.tmp 24) 22 rfl wA.heap.size 5 i0 1 Try.underlying22 hi (.slice (some ⟨wA.heap.size, 0, none⟩) 0 0) 0 [] rfl HO.out rfl ?_)
      go_meet
      case rel => exact ⟨some ⟨wA.heap.size, 0, none⟩, 0, rfl, ⟨rfl, .inr ⟨_, rfl, fun j hj => by simp at hj⟩, Octets.nil, (fun h => by cases h), Nat.le_refl _, by decide, by decide⟩, B1.out⟩
    · subst ha
      have HN : Hid (zs.length = n) := PA.len
      have N1 : Hid (∀ j u, (vals zs)[j]? = some u → (wA.alloc (.cells #[] 5)).cell? (x.add j) = some u) := has_news PA.has B1.out
      go_wp2_with (at_builtin; refine wpList_append_own _ rfl (.tmp 23) (.tmp 24) 22 rfl wA.heap.size 5 i0 (.int .u8 0) 1 1 Try.underlying22 hi hz0 hz1 hz2 rfl (by decide) (.slice (some ⟨wA.heap.size, 0, none⟩) 0 0) 0 [] rfl HO.out x n cap (vals zs) rfl (by rw [vals_length, HN.out]; omega) N1.out (vals_one _) (by unfold maxLen; omega) (by omega) (by simp) ?_; intro v1 w1 hown1 hgrow1 _; have B2 : Hid (Below wA.heap.size wA w1) := B1.out.grown hgrow1 B1.out.size (fun k h => by simp [Value.ownBlock] at h; omega); rw [Nat.zero_add, List.nil_append] at hown1; obtain ⟨a1, c1, hv1, hB1⟩ := own_bs hown1 HPA.out.oct (by omega); subst hv1; clear hgrow1)
      go_meet
      case rel => exact ⟨a1, c1, rfl, hB1, B2.out⟩
  case rest =>
    obtain ⟨ai, ci, rfl, hI, hbc⟩ := hcut
    have Bw1 : Below w.heap.size w wc := hbA.trans (hbc.mono hbA.size)
    have HI1 : Hid (Bs wc ai n ci zs) := hI
    have HP : Hid (Bs w a n cap zs) := hP
    have HOz : Hid (Octets zs) := hP.oct
    have HNl : Hid (zs.length = n) := hP.len
    clear hI PA HPA hP
    go_wp2_with fail
    refine (decode_dla ai n ci zs _ HI1.out (by omega)).mono ?_
    rintro e w2 ⟨xs, al, cl, rfl, hD2, hap, hb2⟩
    obtain ⟨N, hN⟩ : ∃ N, xs.length = N := ⟨_, rfl⟩
    have hNn : xs.length ≤ n := by have := xs_short zs xs hD2.all.1; rw [HNl.out] at this; exact this
    rw [hN] at hNn ⊢
    have HI2 : Hid (Bs w2 ai n ci zs) := HI1.out.below hb2
    have HD2 : Hid (DL w2 wc.heap.size al cl zs xs) := hD2
    go_wp2_with fail
    refine (decode_dl ai n ci zs _ HI2.out (by omega)).mono ?_
    rintro e w3 ⟨ys, bl, cb, rfl, hE3, hb3⟩
    have hyl : ys.length = N := by
      have := congrArg List.length (det ys xs zs zs 0 0 rfl hE3.all HD2.out.all)
      simp at this
      omega
    rw [hyl]
    have HA3 : Hid (AS w3 wc.heap.size w2.heap.size w3.heap.size al cl wc w3 xs) := AS.start HD2.out hap hb2 hb3
    have HE3 : Hid (DL w3 w2.heap.size bl cb zs ys) := hE3
    have HYL : Hid (ys.length = N) := hyl
    have HXL : Hid (xs.length = N) := hN
    have HSz : Hid (Sizes 65535 xs) := fun x hx => (row_may HOz.out xs 0 HD2.out.all.1 x hx).2.2.2
    have HB12 : Hid (Below wc.heap.size wc w2) := hb2
    have HB23 : Hid (Below w2.heap.size w2 w3) := hb3
    clear hD2 hap hb2 hb3 hE3 hyl hN HD2 HI2
    go_wp2_with fail
    go_loopw [6] (fun t W => ∃ (i : Nat) (ts : List Told), i ≤ N ∧ t = .int .i64 i ∧ ts.length = N ∧ AS W wc.heap.size w2.heap.size w3.heap.size al cl wc w3 ts ∧ Filled i 0 ts ∧ Sizes 65535 ts) (fun t _ => N - (intOf t).toNat)
    case atStart => exact ⟨0, xs, by omega, rfl, HXL.out, HA3.out, fun j x hj => by omega, HSz.out⟩
    case round =>
      obtain ⟨i, ts, hi', rfl, htl, hA, hF, hS⟩ := hrel
      by_cases hik : i < N
      · obtain ⟨x, hx⟩ : ∃ x, ts[i]? = some x := ⟨ts[i]'(by omega), List.getElem?_eq_getElem _⟩
        obtain ⟨g, rfl⟩ := hA.some (by omega)
        have hdn := hS x (List.mem_of_getElem? hx)
        have i0' : (0 : Int) ≤ i := by omega
        have i1' : (i : Int) < N := by omega
        obtain ⟨dn, hdn'⟩ : ∃ m, x.s.d.n = m := ⟨_, rfl⟩
        rw [hdn'] at hdn
        have HA : Hid (AS wr wc.heap.size w2.heap.size w3.heap.size (some ⟨g, 0, none⟩) cl wc w3 ts) := hA
        have HF : Hid (Filled i 0 ts) := hF
        have HS : Hid (Sizes 65535 ts) := hS
        have HX : Hid (ts[i]? = some x ∧ x.s.d.n = dn) := ⟨hx, hdn'⟩
        have HTL : Hid (ts.length = N) := htl
        clear hA hF hS hx hdn' htl
        go_wp2_with fail
        go_loopw [7] (fun t W => ∃ (k : Nat) (us : List Told) (y : Told), k ≤ dn ∧ t = .int .i64 k ∧ us.length = N ∧ AS W wc.heap.size w2.heap.size w3.heap.size (some ⟨g, 0, none⟩) cl wc w3 us ∧ Filled i 0 us ∧ Sizes 65535 us ∧ us[i]? = some y ∧ y.s.d.n = dn ∧ Marks i y k) (fun t _ => dn - (intOf t).toNat)
        case atStart => exact ⟨0, ts, x, by omega, rfl, HTL.out, HA.out, HF.out, HS.out, HX.out.1, HX.out.2, fun k hk => by omega⟩
        case round =>
          obtain ⟨k, us, y, hk, rfl, hul, hA, hF, hS, hy, hyn, hM⟩ := hrel
          have m3 := hA.cell i y hy 3 _ rfl
          have hL0 := hA.lies y (List.mem_of_getElem? hy)
          obtain ⟨at1, op1, x1, y1, da, dn', dc, dz⟩ := y
          have hyn := hyn.symm
          subst hyn
          have hL : wr.ownsRow wc.heap.size 5 1 (.slice da dn dc) dn (vals dz) := hL0
          have hdl : dz.length = dn := by have := hL.1; simpa [vals_length] using this
          dsimp only [Sl.val] at m3
          have k0 : (0 : Int) ≤ k := by omega
          have HA : Hid (AS wr wc.heap.size w2.heap.size w3.heap.size (some ⟨g, 0, none⟩) cl wc w3 us) := hA
          have HF : Hid (Filled i 0 us) := hF
          have HS : Hid (Sizes 65535 us) := hS
          have HX : Hid (us[i]? = some ⟨at1, op1, x1, y1, ⟨da, dn, dc, dz⟩⟩) := hy
          have HM : Hid (Marks i ⟨at1, op1, x1, y1, ⟨da, dn, dc, dz⟩⟩ k) := hM
          have HTL : Hid (us.length = N) := hul
          have HDL : Hid (dz.length = dn) := hdl
          clear hA hF hS hy hM hul hL0
          by_cases hkn : k < dn
          · obtain ⟨b, rfl⟩ : ∃ b, da = some ⟨b, 0, none⟩ := by
              rcases hL.2 with ⟨h1, h2⟩ | ⟨g', cp, cur, h1, _⟩
              · omega
              · cases h1; exact ⟨g', rfl⟩
            have hcell : wr.cell? ⟨b, k, none⟩ = some (.int .u8 (dz.getD k 0)) := by rw [hL.cellAt k (by omega), vals_get _ _ (by omega)]
            have hfro : wr.frozen? ⟨b, k, none⟩ = false := hL.frozenAt k
            have k1 : (k : Int) < dn := by omega
            clear hL hdl
            go_wp2
            go_roundw
            case rel =>
              refine ⟨k + 1, us.set i (Told.with ⟨at1, op1, x1, y1, ⟨some ⟨b, 0, none⟩, dn, dc, dz⟩⟩ ⟨some ⟨b, 0, none⟩, dn, dc, dz.set k (((i : Int) * 37 + (k : Int)) % 256)⟩), _, by omega, by go_num, by simpa using HTL.out, HA.out.store i _ HX.out b dn dc dz rfl k _, ?_, ?_, List.getElem?_set_self (List.getElem?_eq_some_iff.1 HX.out).1, rfl, ?_⟩
              · intro j y hj hjy
                rw [List.getElem?_set_ne (by omega)] at hjy
                exact HF.out j y hj hjy
              · intro y hy
                rcases mem_set_cases hy with rfl | ⟨j, _, hjy⟩
                · exact hdn
                · exact HS.out y (List.mem_of_getElem? hjy)
              · intro q hq
                by_cases hqk : q = k
                · subst hqk
                  simp [Told.with, List.getD, HDL.out, hkn]
                · have := HM.out q (by omega)
                  simpa [Told.with, List.getD, List.getElem?_set_ne (show k ≠ q by omega)] using this
            case measure => simp [intOf]; omega
          · go_wp2
            go_roundw
            case rel =>
              refine ⟨i + 1, us, by omega, by go_num, HTL.out, HA.out, ?_, HS.out⟩
              intro j y hj hjy
              by_cases hji : j = i
              · subst hji
                rw [HX.out] at hjy
                cases hjy
                intro q hq
                exact HM.out q (by simp at hq; omega)
              · exact HF.out j y (by omega) hjy
            case measure => simp [intOf]; omega
      · obtain ⟨w4, hw4⟩ : ∃ W, W = wr := ⟨_, rfl⟩
        subst hw4
        have hiN : N = i := by omega
        subst hiN
        have HA4 : Hid (AS w4 wc.heap.size w2.heap.size w3.heap.size al cl wc w3 ts) := hA
        have HM4 : Hid (Mk 0 ts) := fun j x hx => ⟨fun h => by omega, fun _ => by
          have := hF j x (by have := (List.getElem?_eq_some_iff.1 hx).1; omega) hx
          simpa using this⟩
        have HS0 : Hid (Sizes 65535 ts) := hS
        have HS4 : Hid (Sizes 65540 ts) := fun x hx => by have := hS x hx; omega
        have HTL4 : Hid (ts.length = N) := htl
        clear hA hF hS htl HA3 hik hi'
        go_wp2_with fail
        go_loopw [8] (fun t W => ∃ (i : Nat) (ts : List Told), i ≤ N ∧ t = .int .i64 i ∧ ts.length = N ∧ AS W wc.heap.size w2.heap.size w3.heap.size al cl wc w3 ts ∧ Mk i ts ∧ (∀ j x, i ≤ j → ts[j]? = some x → x.s.d.n ≤ 65535) ∧ Sizes 65540 ts) (fun t _ => N - (intOf t).toNat)
        case atStart => exact ⟨0, ts, by omega, rfl, HTL4.out, HA4.out, HM4.out, fun j x _ hx => HS0.out x (List.mem_of_getElem? hx), HS4.out⟩
        case round =>
          obtain ⟨i, us, hi', rfl, htl, hA, hM, hS0, hS⟩ := hrel
          by_cases hik : i < N
          · obtain ⟨x, hx⟩ : ∃ x, us[i]? = some x := ⟨us[i]'(by omega), List.getElem?_eq_getElem _⟩
            obtain ⟨g, rfl⟩ := hA.some (by omega)
            have hdn := hS0 i x (Nat.le_refl _) hx
            have i0' : (0 : Int) ≤ i := by omega
            have i1' : (i : Int) < N := by omega
            have m3 := hA.cell i x hx 3 _ rfl
            have hL0 := hA.lies x (List.mem_of_getElem? hx)
            have hMx := (hM i x hx).2 (Nat.le_refl _)
            obtain ⟨at1, op1, x1, y1, da, dn, dc, dz⟩ := x
            have hL : wr.ownsRow wc.heap.size 5 1 (.slice da dn dc) dn (vals dz) := hL0
            have hdl : dz.length = dn := by have := hL.1; simpa [vals_length] using this
            dsimp only [Sl.val] at m3 hdn hMx
            have HA : Hid (AS wr wc.heap.size w2.heap.size w3.heap.size (some ⟨g, 0, none⟩) cl wc w3 us) := hA
            have HM : Hid (Mk i us) := hM
            have HS : Hid (Sizes 65540 us) := hS
            have HS0' : Hid (∀ j x, i ≤ j → us[j]? = some x → x.s.d.n ≤ 65535) := hS0
            have HX : Hid (us[i]? = some ⟨at1, op1, x1, y1, ⟨da, dn, dc, dz⟩⟩) := hx
            have HTL : Hid (us.length = N) := htl
            have HL : Hid (wr.ownsRow wc.heap.size 5 1 (.slice da dn dc) dn (vals dz)) := hL
            have HMx : Hid (Marks i ⟨at1, op1, x1, y1, ⟨da, dn, dc, dz⟩⟩ dn) := hMx
            have HDL : Hid (dz.length = dn) := hdl
            clear hA hM hS hS0 hx htl hL hL0 hMx hdl HA4 HM4 HS4 HTL4 HS0
            obtain ⟨w5, hw5⟩ : ∃ W, W = wr := ⟨_, rfl⟩
            subst hw5
            go_wp2_with fail
            go_loopw [9] (fun t W => ∃ k : Nat, k ≤ dn ∧ t = .int .i64 k ∧ W = w5) (fun t _ => dn - (intOf t).toNat)
            case atStart => exact ⟨0, by omega, rfl, rfl⟩
            case round =>
              obtain ⟨k, hk, rfl, hwr⟩ := hrel
              have hwr := hwr.symm
              subst hwr
              have k0 : (0 : Int) ≤ k := by omega
              by_cases hkn : k < dn
              · obtain ⟨b, rfl⟩ : ∃ b, da = some ⟨b, 0, none⟩ := by
                  rcases HL.out.2 with ⟨h1, h2⟩ | ⟨g', cp, cur, h1, _⟩
                  · omega
                  · cases h1; exact ⟨g', rfl⟩
                have hcell : w5.cell? ⟨b, k, none⟩ = some (.int .u8 (((i : Int) * 37 + (k : Int)) % 256)) := by
                  have h1 := HL.out.cellAt k (by omega)
                  rw [h1, vals_get _ _ (by have := HDL.out; omega)]
                  have h2 := HMx.out k hkn
                  dsimp only at h2
                  rw [h2]
                have k1 : (k : Int) < dn := by omega
                go_wp2
                go_roundw
                case rel => exact ⟨k + 1, by omega, by go_num, trivial⟩
                case measure => simp [intOf]; omega
              · have HNs : Hid (∀ j u, (vals [1, 2, 3, 4, 5])[j]? = some u → (w5.alloc (.cells #[.int .u8 1, .int .u8 2, .int .u8 3, .int .u8 4, .int .u8 5] 5)).cell? ((⟨w5.heap.size, 0, none⟩ : Addr).add j) = some u) := World.news_of_block (heap_alloc_new w5 _)
                go_wp2_with (at_builtin; refine wpList_append_own_at _ rfl (.tmp 94) (.tmp 95) 22 rfl wc.heap.size 5 i0 (.int .u8 0) 1 1 Try.underlying22 hi hz0 hz1 hz2 rfl (by decide) (.slice da dn dc) dn (vals dz) rfl (HL.out.alloc _) ⟨w5.heap.size, 0, none⟩ 5 5 (vals [1, 2, 3, 4, 5]) rfl rfl HNs.out (vals_one _) (by unfold maxLen; omega) (by omega) (Nat.le_trans HA.out.low0 (by simp)) ?_; intro v1 w6 hown1 hgrow1 _ hat1; obtain ⟨a6, c6, hv6, HG6, q1, q2⟩ := HA.out.grown i _ HX.out _ rfl hown1 hgrow1 hat1; subst hv6; clear hown1 hgrow1 hat1)
                go_roundw
                case rel =>
                  refine ⟨i + 1, _, by omega, by go_num, ?_, HG6.out, ?_, ?_, ?_⟩
                  · simpa using HTL.out
                  · exact mk_next HM.out HX.out HMx.out HDL.out
                  · intro j y hj hjy
                    rw [List.getElem?_set_ne (by omega)] at hjy
                    exact HS0'.out j y (by omega) hjy
                  · intro y hy
                    rcases mem_set_cases hy with rfl | ⟨j, _, hjy⟩
                    · simp [Told.with]; omega
                    · exact HS.out y (List.mem_of_getElem? hjy)
                case measure => simp [intOf]; omega
          · obtain ⟨w5, hw5⟩ : ∃ W, W = wr := ⟨_, rfl⟩
            subst hw5
            have hiN : N = i := by omega
            subst hiN
            have HA5 : Hid (AS w5 wc.heap.size w2.heap.size w3.heap.size al cl wc w3 us) := hA
            have HM5 : Hid (Mk N us) := hM
            have HS5 : Hid (Sizes 65540 us) := hS
            have HTL5 : Hid (us.length = N) := htl
            clear hA hM hS hS0 htl hik hi' HA4 HM4 HS4 HTL4 HS0
            go_wp2_with fail
            go_loopw [10] (fun t W => ∃ i : Nat, i ≤ N ∧ t = .int .i64 i ∧ W = w5) (fun t _ => N - (intOf t).toNat)
            case atStart => exact ⟨0, by omega, rfl, rfl⟩
            case round =>
              obtain ⟨i, hi', rfl, hwr⟩ := hrel
              have hwr := hwr.symm
              subst hwr
              by_cases hik : i < N
              · obtain ⟨x, hx⟩ : ∃ x, us[i]? = some x := ⟨us[i]'(by have := HTL5.out; omega), List.getElem?_eq_getElem _⟩
                obtain ⟨g, rfl⟩ := HA5.out.some (by have := HTL5.out; omega)
                have hdn := HS5.out x (List.mem_of_getElem? hx)
                have i0' : (0 : Int) ≤ i := by omega
                have i1' : (i : Int) < N := by omega
                have m3 := HA5.out.cell i x hx 3 _ rfl
                have hL0 := HA5.out.lies x (List.mem_of_getElem? hx)
                have hMx := (HM5.out i x hx).1 hik
                obtain ⟨at1, op1, x1, y1, da, dn, dc, dz⟩ := x
                have hL : w5.ownsRow wc.heap.size 5 1 (.slice da dn dc) dn (vals dz) := hL0
                have hdl : dz.length = dn := by have := hL.1; simpa [vals_length] using this
                dsimp only [Sl.val] at m3 hdn hMx
                obtain ⟨h5, hMx⟩ := hMx
                obtain ⟨K, hK⟩ : ∃ K, dn = K + 5 := ⟨dn - 5, by omega⟩
                subst hK
                have HL : Hid (w5.ownsRow wc.heap.size 5 1 (.slice da (K + 5) dc) (K + 5) (vals dz)) := hL
                have HMx : Hid (Marks i ⟨at1, op1, x1, y1, ⟨da, K + 5, dc, dz⟩⟩ K) := fun k hk => hMx k (by omega)
                have HDL : Hid (dz.length = K + 5) := hdl
                clear hx hL hL0 hMx hdl
                obtain ⟨b, rfl⟩ : ∃ b, da = some ⟨b, 0, none⟩ := by
                  rcases HL.out.2 with ⟨h1, h2⟩ | ⟨g', cp, cur, h1, _⟩
                  · omega
                  · cases h1; exact ⟨g', rfl⟩
                go_wp2_with fail
                go_loopw [11] (fun t W => ∃ k : Nat, k ≤ K ∧ t = .int .i64 k ∧ W = w5) (fun t _ => K - (intOf t).toNat)
                case atStart => exact ⟨0, by omega, rfl, rfl⟩
                case round =>
                  obtain ⟨k, hk, rfl, hwr⟩ := hrel
                  have hwr := hwr.symm
                  subst hwr
                  have k0 : (0 : Int) ≤ k := by omega
                  by_cases hkn : k < K
                  · have hcell : w5.cell? ⟨b, k, none⟩ = some (.int .u8 (((i : Int) * 37 + (k : Int)) % 256)) := by
                      have h1 := HL.out.cellAt k (by omega)
                      rw [h1, vals_get _ _ (by have := HDL.out; omega)]
                      have h2 := HMx.out k hkn
                      dsimp only at h2
                      rw [h2]
                    have k1 : (k : Int) < K := by omega
                    go_wp2
                    go_roundw
                    case rel => exact ⟨k + 1, by omega, by go_num, trivial⟩
                    case measure => simp [intOf]; omega
                  · go_wp2
                    go_roundw
                    case rel => exact ⟨i + 1, by omega, by go_num, trivial⟩
                    case measure => simp [intOf]; omega
              · have Bw5 : Below wc.heap.size wc w5 := HA5.out.low
                have HE5 : Hid (DL w5 w2.heap.size bl cb zs ys) := dl_mid HE3.out HA5.out.mid
                have HI5 : Hid (Bs w5 ai n ci zs) := HI1.out.below Bw5
                have HON : Hid (w5.ownsRow wc.heap.size 32 4 (.slice al N cl) N (us.flatMap Told.row)) := by
                  have := HA5.out.own
                  rw [HTL5.out] at this
                  exact this
                have HGo : Hid (∀ b, (Value.slice al N cl).ownBlock = some b → b < w2.heap.size) := by
                  have := HA5.out.gout
                  rw [HTL5.out] at this
                  exact this
                have HS35 : Hid (w3.heap.size ≤ w5.heap.size) := HA5.out.size
                have HLw : Hid (wc.heap.size ≤ w5.heap.size) := HA5.out.low0
                have HNs : Hid (∀ j u, ([.int .i64 0, .int .i64 0, .int .i64 0, .slice none 0 0, .int .i64 0, .int .i64 0, .int .i64 0, .slice none 0 0] : List Value)[j]? = some u → (w5.alloc (.cells #[.int .i64 0, .int .i64 0, .int .i64 0, .slice none 0 0, .int .i64 0, .int .i64 0, .int .i64 0, .slice none 0 0] 32)).cell? ((⟨w5.heap.size, 0, none⟩ : Addr).add j) = some u) := World.news_of_block (heap_alloc_new w5 _)
                clear HA5 HM5 HS5 HTL5
                go_wp2_with (at_builtin; refine wpList_append_own _ rfl (.tmp 130) (.tmp 133) 26 rfl wc.heap.size 32 i32 _ 4 48 Try.underlying26 hi32 hy0 hy1 hy2 rfl (by decide) (.slice al N cl) N (us.flatMap Told.row) rfl (HON.out.alloc _) ⟨w5.heap.size, 0, none⟩ 2 2 [.int .i64 0, .int .i64 0, .int .i64 0, .slice none 0 0, .int .i64 0, .int .i64 0, .int .i64 0, .slice none 0 0] rfl rfl HNs.out (by decide) (by unfold maxLen; omega) (by omega) (Nat.le_trans HLw.out (by simp)) ?_; intro v6 w6 hown6 hgrow6 _; obtain ⟨a6, c6, hv6⟩ := own_shape hown6; subst hv6; obtain ⟨Bw6, HE6⟩ := after_grow HE5.out Bw5 HB12.out.size HB23.out.size HS35.out HLw.out hgrow6 (fun k hk => (HON.out.lt k hk).1) HGo.out; clear hown6 hgrow6)
                obtain ⟨M, hM⟩ : ∃ M, N + 2 = M := ⟨_, rfl⟩
                rw [hM]
                have hM4 : ¬ M < 2 := by omega
                clear hM
                have HI6 : Hid (Bs w6 ai n ci zs) := HI1.out.below Bw6
                have HP6 : Hid (Has w6 a zs) := HP.out.has.of_below (Bw1.trans (Bw6.mono Bw1.size))
                refine (decode_dl ai n ci zs _ HI6.out (by omega)).mono ?_
                rintro e w7 ⟨cs, al7, cl7, rfl, hD7, hb7⟩
                have hcl : cs.length = N := by
                  have := congrArg List.length (det cs ys zs zs 0 0 rfl hD7.all HE5.out.all)
                  simp at this
                  have := HYL.out
                  omega
                rw [hcl]
                have HCL : Hid (cs.length = N) := hcl
                have HE7 : Hid (DL w7 w2.heap.size bl cb zs ys) := HE6.below hb7
                have HD7 : Hid (DL w7 w6.heap.size al7 cl7 zs cs) := hD7
                have HI7 : Hid (Has w7 ai zs) := HI6.out.has.of_below hb7
                have HP7 : Hid (Has w7 a zs) := HP6.out.of_below hb7
                have Bw7 : Below w.heap.size w w7 := (Bw1.trans (Bw6.mono Bw1.size)).trans (hb7.mono (Bw1.trans (Bw6.mono Bw1.size)).size)
                have hM2 : (2 : Int) ≤ M := by omega
                have hM3 : decide ((M : Int) < 2) = false := decide_eq_false (by omega)
                clear hD7 hb7 hcl HI6 HP6 HE6 HE5 HI5 HON HGo
                go_wp2_with fail
                refine (same_any ai a n ci cap zs _ HNl.out HI7.out HP7.out (by omega)).mono ?_
                rintro e w8' ⟨rfl, q8, rfl⟩
                obtain ⟨w8, hw8⟩ : ∃ W, w7.drewN q8 = W := ⟨_, rfl⟩
                have hb8 : Below w7.heap.size w7 w8 := by rw [← hw8]; exact below_drewN (Below.refl _ _) q8
                rw [hw8]
                have HE8 : Hid (DL w8 w2.heap.size bl cb zs ys) := HE7.out.below hb8
                have HD8 : Hid (DL w8 w6.heap.size al7 cl7 zs cs) := HD7.out.below hb8
                have Bw8 : Below w.heap.size w w8 := Bw7.trans (hb8.mono Bw7.size)
                clear hw8 hb8 HE7 HD7 HI7 HP7 Bw7 hik hi'
                go_wp2_with fail
                clear hM2 hM3 hM4
                go_loopw [13] (fun t W => ∃ i : Nat, i ≤ N ∧ t = .int .i64 i ∧ Below w8.heap.size w8 W) (fun t _ => N - (intOf t).toNat)
                case atStart => exact ⟨0, by omega, rfl, Below.refl _ _⟩
                case round =>
                  obtain ⟨i, hi', rfl, hBW⟩ := hrel
                  by_cases hik : i < N
                  · obtain ⟨x, hx⟩ : ∃ x, ys[i]? = some x := ⟨ys[i]'(by have := HYL.out; omega), List.getElem?_eq_getElem _⟩
                    obtain ⟨y, hy⟩ : ∃ y, cs[i]? = some y := ⟨cs[i]'(by have := HCL.out; omega), List.getElem?_eq_getElem _⟩
                    have hsig : ssig x.s = ssig y.s := by
                      have h1 := congrArg (·[i]?) (det ys cs zs zs 0 0 rfl HE8.out.all HD8.out.all)
                      simpa [hx, hy] using h1
                    obtain ⟨g1, rfl⟩ := HE8.out.some (by have := HYL.out; omega)
                    obtain ⟨g2, rfl⟩ := HD8.out.some (by have := HCL.out; omega)
                    obtain ⟨op, x', y', a1', a2', dn, d1, d2, dz, hP2, hl1, hh1, hh2, hn2⟩ := both_of HOz.out (HE8.out.below hBW) (HD8.out.below hBW) i i x y hx hy hsig
                    obtain ⟨⟨m0, m1, m2, m3⟩, q0, q1, q2, q3⟩ := hP2
                    dsimp only [Sl.val] at m0 m1 m2 m3 q0 q1 q2 q3
                    have HH1 : Hid (Has wr a1' dz) := hh1
                    have HH2 : Hid (Has wr a2' dz) := hh2
                    have HL1 : Hid (dz.length = dn) := hl1
                    have i0' : (0 : Int) ≤ i := by omega
                    have i1' : (i : Int) < N := by omega
                    clear hh1 hh2 hl1 hx hy hsig
                    go_wp2_with fail
                    go_region_held3 (fun w' => w'.cell? ⟨g1, i * 4, none⟩ = some (.int .i64 op) ∧ w'.cell? ⟨g1, i * 4 + 1, none⟩ = some (.int .i64 x') ∧ w'.cell? ⟨g1, i * 4 + 2, none⟩ = some (.int .i64 y') ∧ w'.cell? ⟨g1, i * 4 + 3, none⟩ = some (.slice a1' dn d1) ∧ w'.cell? ⟨g2, i * 4, none⟩ = some (.int .i64 op) ∧ w'.cell? ⟨g2, i * 4 + 1, none⟩ = some (.int .i64 x') ∧ w'.cell? ⟨g2, i * 4 + 2, none⟩ = some (.int .i64 y') ∧ w'.cell? ⟨g2, i * 4 + 3, none⟩ = some (.slice a2' dn d2)) (go_keep)
                      (first | (go_at_call 23; refine (both_any op x' y' a1' a2' dn d1 d2 dz _ HL1.out (has_drew HH1.out) (has_drew HH2.out) (by omega)).mono ?_; rintro e w9 ⟨rfl, hb9⟩; have HB9 : Hid (Below w8.heap.size w8 w9) := (below_next hBW hb9); obtain ⟨⟨k0', k1', k2', k3'⟩, l0, l1, l2, l3⟩ := pair_next hb9 m0 m1 m2 m3 q0 q1 q2 q3; clear hb9))
                    go_wp2
                    go_roundw
                    case rel => exact ⟨i + 1, by omega, by go_num, HB9.out⟩
                    case measure => simp [intOf]; omega
                  · obtain ⟨w9, hw9⟩ : ∃ W, W = wr := ⟨_, rfl⟩
                    subst hw9
                    have HE9 : Hid (DL w9 w2.heap.size bl cb zs ys) := HE8.out.below hBW
                    have Bw9 : Below w.heap.size w w9 := Bw8.trans (hBW.mono Bw8.size)
                    obtain ⟨F, hF⟩ : ∃ F, formAll (ys.map (·.s)) = F := ⟨_, rfl⟩
                    obtain ⟨hFo, hFl⟩ := form_facts zs ys HE9.out.all HOz.out (by have := HNl.out; omega)
                    rw [hF] at hFo hFl
                    have HFo : Hid (Octets F) := hFo
                    have HFE : Hid (formAll (ys.map (·.s)) = F) := hF
                    have hzl : zs.length ≤ 1048576 := by have := HNl.out; omega
                    obtain ⟨L, hL⟩ : ∃ L, F.length = L := ⟨_, rfl⟩
                    have HFL : Hid (F.length = L) := hL
                    rw [hL] at hFl
                    have HEnc : Hid (∀ W, DL W w2.heap.size bl cb zs ys → Calls Try.prog 18 #[.slice bl N cb] W fun e w' => ∃ a1 c1, e = .returned (.tuple #[.slice a1 L c1, .int .i64 0]) ∧ w'.ownsRow W.heap.size 5 1 (.slice a1 L c1) L (vals F) ∧ Below W.heap.size W w') := fun W hD => by
                      have := enc_dl W w2.heap.size bl cb N zs ys hD HYL.out HOz.out hzl
                      rw [HFE.out, HFL.out] at this
                      exact this
                    clear hFo hF hL HE8 HD8 Bw8 hBW hzl
                    go_wp2_with fail
                    refine (HEnc.out _ HE9.out).mono ?_
                    rintro e w10 ⟨a10, c10, rfl, hO10, hb10⟩
                    have HE10 : Hid (DL w10 w2.heap.size bl cb zs ys) := HE9.out.below hb10
                    have HO10 : Hid (w10.ownsRow w9.heap.size 5 1 (.slice a10 L c10) L (vals F)) := hO10
                    have Bw10 : Below w.heap.size w w10 := Bw9.trans (hb10.mono Bw9.size)
                    clear hO10
                    go_wp2_with fail
                    refine (HEnc.out _ HE10.out).mono ?_
                    rintro e w11 ⟨a11, c11, rfl, hO11, hb11⟩
                    have HE11 : Hid (DL w11 w2.heap.size bl cb zs ys) := HE10.out.below hb11
                    have HO11 : Hid (w11.ownsRow w9.heap.size 5 1 (.slice a10 L c10) L (vals F)) := own_blk' HO10.out (fun k hk => hb11.block k (HO10.out.lt k hk).2)
                    have HY11 : Hid (w11.ownsRow w10.heap.size 5 1 (.slice a11 L c11) L (vals F)) := hO11
                    have Bw11 : Below w.heap.size w w11 := Bw10.trans (hb11.mono Bw10.size)
                    have Bw911 : Below w9.heap.size w9 w11 := hb10.trans (hb11.mono hb10.size)
                    have HK : Hid (∀ k, (Value.slice a10 L c10).ownBlock = some k → w9.heap.size ≤ k ∧ k < w10.heap.size) := fun k hk => HO10.out.lt k hk
                    have HWs : Hid (w.heap.size ≤ w9.heap.size) := Bw9.size
                    clear hO11 HE10 HO10 Bw10 hb11 hb10
                    go_wp2_with fail
                    go_loopw [18] (fun t W => ∃ (j : Nat) (ps : List Int), j ≤ L ∧ t = .int .i64 j ∧ W.ownsRow w9.heap.size 5 1 (.slice a10 L c10) L (vals ps) ∧ Octets ps ∧ (∀ k, k < w11.heap.size → some k ≠ (Value.slice a10 L c10).ownBlock → W.heap[k]? = w11.heap[k]?) ∧ Below w9.heap.size w9 W ∧ w11.heap.size ≤ W.heap.size) (fun t _ => L - (intOf t).toNat)
                    case atStart => exact ⟨0, F, by omega, rfl, HO11.out, HFo.out, fun k _ _ => rfl, Bw911, Nat.le_refl _⟩
                    case round =>
                      obtain ⟨j, ps, hj, rfl, hO, hOct, hfr, hBW, hsz⟩ := hrel
                      have j0 : (0 : Int) ≤ j := by omega
                      by_cases hjL : j < L
                      · obtain ⟨b, rfl⟩ : ∃ b, a10 = some ⟨b, 0, none⟩ := by
                          rcases hO.2 with ⟨h1, h2⟩ | ⟨g', cp, cur, h1, _⟩
                          · omega
                          · cases h1; exact ⟨g', rfl⟩
                        have hpl : ps.length = L := by have := hO.1; simpa [vals_length] using this
                        have hcell : wr.cell? ⟨b, j, none⟩ = some (.int .u8 (ps.getD j 0)) := by rw [hO.cellAt j (by omega), vals_get _ _ (by omega)]
                        have hfro : wr.frozen? ⟨b, j, none⟩ = false := hO.frozenAt j
                        have oz := hOct j
                        obtain ⟨z, hz⟩ : ∃ z, ps.getD j 0 = z := ⟨_, rfl⟩
                        rw [hz] at hcell oz
                        obtain ⟨z0, z1⟩ := oz
                        have hbl := hO.lt b rfl
                        have j1 : (j : Int) < L := by omega
                        have HOn : Hid (wr.ownsRow w9.heap.size 5 1 (.slice (some ⟨b, 0, none⟩) L c10) L (vals ps)) := hO
                        have HOct : Hid (Octets ps) := hOct
                        have Hfr : Hid (∀ k, k < w11.heap.size → some k ≠ (Value.slice (some ⟨b, 0, none⟩) L c10).ownBlock → wr.heap[k]? = w11.heap[k]?) := hfr
                        clear hz hO hOct hfr hpl
                        go_wp2
                        go_roundw
                        case rel =>
                          refine ⟨j + 1, ps.set j ((z + 1) % 256), by omega, by go_num, ?_, octets_put HOct.out j _ (by omega) (by omega), fun k h1 h2 => ?_, hBW.setCell (p := ⟨b, j, none⟩) hbl.1 _, by simpa [World.setCell] using hsz⟩
                          · have := (HOn.out.stored j (.int .u8 ((z + 1) % 256))).1
                            have e : vals (ps.set j ((z + 1) % 256)) = (vals ps).set j (.int .u8 ((z + 1) % 256)) := by simp [vals, List.map_set]
                            rw [e]; exact this
                          · rw [Below.heap_setCell _ _ _ _ (fun e => h2 (by simp [Value.ownBlock, e]))]
                            exact Hfr.out k h1 h2
                        case measure => simp [intOf]; omega
                      · have HOn : Hid (wr.ownsRow w9.heap.size 5 1 (.slice a10 L c10) L (vals ps)) := hO
                        have Hfr : Hid (∀ k, k < w11.heap.size → some k ≠ (Value.slice a10 L c10).ownBlock → wr.heap[k]? = w11.heap[k]?) := hfr
                        have HNs8 : Hid (∀ j u, (vals [1, 2, 3, 4, 5, 6, 7, 8])[j]? = some u → (wr.alloc (.cells #[.int .u8 1, .int .u8 2, .int .u8 3, .int .u8 4, .int .u8 5, .int .u8 6, .int .u8 7, .int .u8 8] 5)).cell? ((⟨wr.heap.size, 0, none⟩ : Addr).add j) = some u) := World.news_of_block (heap_alloc_new wr _)
                        have hws : w9.heap.size ≤ wr.heap.size := hBW.size
                        have HBW : Hid (Below w9.heap.size w9 wr) := hBW
                        clear hO hOct hfr hBW
                        go_wp2_with (at_builtin; refine wpList_append_own _ rfl (.tmp 193) (.tmp 194) 22 rfl w9.heap.size 5 i0 (.int .u8 0) 1 1 Try.underlying22 hi hz0 hz1 hz2 rfl (by decide) (.slice a10 L c10) L (vals ps) rfl (HOn.out.alloc _) ⟨wr.heap.size, 0, none⟩ 8 8 (vals [1, 2, 3, 4, 5, 6, 7, 8]) rfl rfl HNs8.out (vals_one _) (by unfold maxLen; omega) (by omega) (by simp; omega) ?_; intro v12 w12 hown12 hgrow12 _; obtain ⟨a12, c12, hv12⟩ := own_shape hown12; subst hv12; have B12 : Hid (Below w9.heap.size w9 w12) := (HBW.out.alloc hws _).grown hgrow12 (by simp; omega) (fun k hk => (HK.out k hk).1); have Y12 : Hid (w12.ownsRow w10.heap.size 5 1 (.slice a11 L c11) L (vals F)) := own_blk' HY11.out (fun k hk => keep_y (HY11.out.lt k hk) hsz Hfr.out hgrow12 HK.out); clear hown12 hgrow12)
                        obtain ⟨M8, hM8⟩ : ∃ M, L + 8 = M := ⟨_, rfl⟩
                        rw [hM8]
                        have hM9 : ¬ M8 < 8 := by omega
                        have hM10 : (8 : Int) ≤ M8 := by omega
                        have hM11 : decide ((8 : Int) ≤ M8) = true := decide_eq_true (by omega)
                        have hF9 : F.length ≤ 140737488355328 := by have := HFL.out; omega
                        clear hM8
                        have HE12 : Hid (DL w12 w2.heap.size bl cb zs ys) := HE9.out.below B12.out
                        refine (HEnc.out _ HE12.out).mono ?_
                        rintro e w13 ⟨a13, c13, rfl, hO13, hb13⟩
                        have Y13 : Hid (w13.ownsRow w10.heap.size 5 1 (.slice a11 L c11) L (vals F)) := own_blk' Y12.out (fun k hk => hb13.block k (Y12.out.lt k hk).2)
                        have h1 : Hid (Has w13 a11 F) := own_has' Y13.out
                        have h2 : Hid (Has w13 a13 F) := own_has' hO13
                        have Bw13 : Below w.heap.size w w13 := (Bw9.trans (B12.out.mono HWs.out)).trans (hb13.mono (Bw9.trans (B12.out.mono HWs.out)).size)
                        clear hO13 hb13 Y13 Y12 hF9
                        go_wp2_with fail
                        refine (same_any a11 a13 L c11 c13 F _ HFL.out h1.out h2.out (by omega)).mono ?_
                        rintro e w14 ⟨rfl, q14, rfl⟩
                        go_wp2
                        go_ret
                        exact ⟨rfl, below_drewN Bw13 q14⟩
end Go.Proofs.Ytnbhadfhgecajaa
