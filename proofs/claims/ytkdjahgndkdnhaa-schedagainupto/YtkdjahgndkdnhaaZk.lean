import Derived.Test.YtkdjahgndkdnhaaZj
import Derived.Test.YtkdjahgndkdnhaaU
namespace Go.Proofs.Ytkdjahgndkdnhaa
set_option linter.unusedVariables false
set_option linter.unusedSimpArgs false
/-! What holds of tasks between any two acts. -/
structure TI (n : Nat) (q : Nat → Nat) (st : Nat) (ts : List Tk) : Prop where
  len : ts.length = n
  stp : ∀ (i : Nat) (u : Tk), ts[i]? = some u → u.kind ≠ 4 → u.step = clo (q i)
  ok : ∀ (i : Nat) (u : Tk), ts[i]? = some u → TkOk st u
  apt : Apt ts
def AliveAt (ts : List Tk) (n : Nat) : Prop := ∃ u, ts[n]? = some u ∧ u.kind ≠ 4
theorem ti_go {n : Nat} {q : Nat → Nat} {st : Nat} {ts : List Tk} (h : TI n q st ts) {x : Nat} (ha : AliveAt ts x) : TI n q st (goAt ts x) ∧ ∀ y, AliveAt ts y → AliveAt (goAt ts x) y := by
  obtain ⟨t, ht, hk⟩ := ha
  have hg := goAt_some ht
  have hxl : x < ts.length := (List.getElem?_eq_some_iff.1 ht).1
  refine ⟨⟨by rw [goAt_len]; exact h.len, ?_, ?_, apt_goAt h.apt x⟩, ?_⟩
  · intro i u hu hk'
    rw [hg] at hu
    by_cases e : i = x
    · subst e
      rw [List.getElem?_set] at hu
      simp [hxl] at hu
      subst hu
      exact h.stp i t ht hk
    · rw [List.getElem?_set_ne (fun h => e h.symm)] at hu
      exact h.stp i u hu hk'
  · intro i u hu
    rw [hg] at hu
    by_cases e : i = x
    · subst e
      rw [List.getElem?_set] at hu
      simp [hxl] at hu
      subst hu
      have := h.ok i t ht
      exact ⟨by unfold Tk.goes I64; dsimp only; omega, by unfold Tk.goes I64; dsimp only; omega, this.s0, this.s1⟩
    · rw [List.getElem?_set_ne (fun h => e h.symm)] at hu
      exact h.ok i u hu
  · rintro y ⟨u, hu, ku⟩
    rw [hg]
    by_cases e : y = x
    · subst e
      exact ⟨t.goes, by rw [List.getElem?_set]; simp [hxl], by simp [Tk.goes]⟩
    · exact ⟨u, by rw [List.getElem?_set_ne (fun h => e h.symm)]; exact hu, ku⟩
theorem ti_goAll {n : Nat} {q : Nat → Nat} {st : Nat} {l : List Nat} : ∀ {ts : List Tk}, TI n q st ts → (∀ x ∈ l, AliveAt ts x) → TI n q st (goAll ts l) ∧ ∀ y, AliveAt ts y → AliveAt (goAll ts l) y := by
  induction l with
  | nil => intro ts h _; exact ⟨h, fun _ hy => hy⟩
  | cons x l ih =>
    intro ts h ha
    obtain ⟨h1, h2⟩ := ti_go h (ha x (by simp))
    unfold goAll at ih ⊢
    rw [List.foldl_cons]
    obtain ⟨i1, i2⟩ := ih h1 (fun y hy => h2 y (ha y (List.mem_cons_of_mem _ hy)))
    exact ⟨i1, fun y hy => i2 y (h2 y hy)⟩
theorem wait_alive {ts : List Tk} {on : Int} {x : Nat} (h : x ∈ waitL ts on) : AliveAt ts x := by
  obtain ⟨t, ht, hk⟩ := waitL_mem h
  exact ⟨t, ht, by rw [hk]; decide⟩
theorem ti_sig {n : Nat} {q : Nat → Nat} {st : Nat} {ts : List Tk} (h : TI n q st ts) (o : Int) : TI n q st (sigT ts o) ∧ ∀ y, AliveAt ts y → AliveAt (sigT ts o) y := by
  unfold sigT
  split
  · exact ⟨h, fun _ hy => hy⟩
  · rename_i x l hw
    exact ti_go h (wait_alive (on := o) (by rw [hw]; simp))
theorem stepG_inv {n m : Nat} {q : Nat → Nat} {st : Nat} : ∀ (l : List (Int × Int)) (ts : List Tk) (H : Int → Option Int) (T : List Int) (k : Nat), (∀ x ∈ l, I64 x.1 ∧ I64 x.2) → TI n q st ts →
    TI n q st (stepG m l ts H T k).ts ∧ k ≤ (stepG m l ts H T k).at_ ∧ (stepG m l ts H T k).at_ ≤ k + l.length ∧ (stepG m l ts H T k).T.length + k ≤ T.length + (stepG m l ts H T k).at_ ∧ (∀ a o, (stepG m l ts H T k).wish = some (a, o) → I64 a ∧ I64 o) ∧ (∀ y, AliveAt ts y → AliveAt (stepG m l ts H T k).ts y)
  | [], ts, H, T, k, _, h => by
    simp only [stepG]
    refine ⟨h, Nat.le_refl _, by omega, by omega, ?_, fun _ hy => hy⟩
    intro a o e
    cases e
    exact ⟨by unfold I64; omega, by unfold I64; omega⟩
  | (a, o) :: l, ts, H, T, k, hl, h => by
    have hao := hl (a, o) (by simp)
    have hl' : ∀ x ∈ l, I64 x.1 ∧ I64 x.2 := fun x hx => hl x (List.mem_cons_of_mem _ hx)
    rw [stepG]
    have app : ∀ y : Int, (T ++ [y]).length = T.length + 1 := fun y => by simp
    split
    · rename_i ha
      refine ⟨h, by dsimp only; omega, by dsimp only [List.length_cons]; omega, by dsimp only; omega, ?_, fun _ hy => hy⟩
      intro a' o' e
      cases e
      refine ⟨?_, hao.2⟩
      have := hao.1
      unfold I64 at this ⊢
      dsimp only at this
      omega
    · split
      · obtain ⟨i1, i2, i3, i4, i5, i6⟩ := stepG_inv (m := m) l ts (unH H m o) (T ++ [unE H m o]) (k + 1) hl' h
        rw [app] at i4
        exact ⟨i1, by omega, by simp only [List.length_cons]; omega, by omega, i5, i6⟩
      · split
        · obtain ⟨s1, s2⟩ := ti_sig h o
          obtain ⟨i1, i2, i3, i4, i5, i6⟩ := stepG_inv (m := m) l (sigT ts o) H (T ++ [sigE ts o]) (k + 1) hl' s1
          rw [app] at i4
          exact ⟨i1, by omega, by simp only [List.length_cons]; omega, by omega, i5, fun y hy => i6 y (s2 y hy)⟩
        · split
          · obtain ⟨s1, s2⟩ := ti_goAll h (fun x hx => wait_alive (on := o) hx)
            obtain ⟨i1, i2, i3, i4, i5, i6⟩ := stepG_inv (m := m) l (goAll ts (waitL ts o)) H (T ++ [((waitL ts o).length : Int)]) (k + 1) hl' s1
            rw [app] at i4
            exact ⟨i1, by omega, by simp only [List.length_cons]; omega, by omega, i5, fun y hy => i6 y (s2 y hy)⟩
          · split
            · refine ⟨h, by dsimp only; omega, by dsimp only [List.length_cons]; omega, by dsimp only; omega, ?_, fun _ hy => hy⟩
              intro a' o' e
              cases e
            · obtain ⟨i1, i2, i3, i4, i5, i6⟩ := stepG_inv (m := m) l ts H T (k + 1) hl' h
              exact ⟨i1, by omega, by simp only [List.length_cons]; omega, by omega, i5, i6⟩
/-- A task's wish is laid. -/
theorem ti_wish {n : Nat} {q : Nat → Nat} {st : Nat} {ts : List Tk} (h : TI n q st ts) {x : Nat} {t2 : Tk} (hx : ts[x]? = some t2) (hs : t2.kind ≠ 4) {k o : Int} (hk : I64 k) (ho : I64 o) (f : Bool) : TI n q (st + 1) (ts.set x ({ t2 with failed := f }.wished k o (st + 1))) := by
  have hxl : x < ts.length := (List.getElem?_eq_some_iff.1 hx).1
  have key : ∀ (i : Nat) (u : Tk), (ts.set x ({ t2 with failed := f }.wished k o (st + 1)))[i]? = some u → (i = x ∧ u = { t2 with failed := f }.wished k o (st + 1)) ∨ (i ≠ x ∧ ts[i]? = some u) := by
    intro i u hu
    by_cases e : i = x
    · subst e
      rw [List.getElem?_set] at hu
      simp [hxl] at hu
      exact .inl ⟨rfl, hu.symm⟩
    · rw [List.getElem?_set_ne (fun h => e h.symm)] at hu
      exact .inr ⟨e, hu⟩
  refine ⟨by simp [h.len], ?_, ?_, ?_⟩
  · intro i u hu ku
    rcases key i u hu with ⟨rfl, rfl⟩ | ⟨_, hu⟩
    · have h4 : plainK k ≠ 4 := ku
      have e : ({ t2 with failed := f }.wished k o (st + 1)).step = t2.step := by unfold Tk.wished; dsimp only; rw [if_neg h4]
      rw [e]
      exact h.stp i t2 hx hs
    · exact h.stp i u hu ku
  · intro i u hu
    rcases key i u hu with ⟨rfl, rfl⟩ | ⟨_, hu⟩
    · refine ⟨?_, ?_, ?_, ?_⟩
      · unfold Tk.wished plainK I64; dsimp only; split <;> omega
      · unfold Tk.wished plainO; dsimp only; split
        · unfold I64; omega
        · exact ho
      · unfold Tk.wished; dsimp only; omega
      · unfold Tk.wished; dsimp only; omega
    · have := h.ok i u hu
      exact ⟨this.k64, this.o64, this.s0, by have := this.s1; omega⟩
  · intro i j u v hu hv ku kv e
    rcases key i u hu with ⟨rfl, rfl⟩ | ⟨hi, hu'⟩
    · rcases key j v hv with ⟨rfl, rfl⟩ | ⟨hj, hv'⟩
      · rfl
      · exfalso
        have := (h.ok j v hv').s1
        have e' : (((st + 1 : Nat) : Int)) = v.since := e
        omega
    · rcases key j v hv with ⟨rfl, rfl⟩ | ⟨hj, hv'⟩
      · exfalso
        have := (h.ok i u hu').s1
        have e' : u.since = (((st + 1 : Nat) : Int)) := e
        omega
      · exact h.apt i j u v hu' hv' ku kv e
/-- Tasks between two picks. -/
structure Ap (w W : World) (b : Nat) (rv : Value) (m : Nat) (ps : List Nat) (ts : List Tk) (H : Int → Option Int) (st xb : Nat) (dv tv : Value) (T : List Int) (M : Nat) (q : Nat → Nat) (lv : Nat → Value) (ls : Nat → List (Int × Int)) (at_ : Nat → Nat) (n tot : Nat) : Prop where
  ps : Ps w W b rv m ps ts H st st xb dv tv T M q lv ls at_ n
  ti : TI n q st ts
  la : ∀ i, i < n → at_ i ≤ (ls i).length
  tl : T.length + sumTo (fun i => (ls i).length - at_ i) n ≤ tot
theorem sumTo_ge {f : Nat → Nat} {i : Nat} : ∀ n, i < n → f i ≤ sumTo f n
  | 0, h => by omega
  | n + 1, h => by
    simp only [sumTo]
    by_cases e : i = n
    · subst e; omega
    · have := sumTo_ge (f := f) (i := i) n (by omega); omega
theorem sumTo_down {f : Nat → Nat} {i v : Nat} : ∀ n, i < n → v ≤ f i → sumTo (fset f i v) n + (f i - v) = sumTo f n
  | 0, h, _ => by omega
  | n + 1, h, hv => by
    simp only [sumTo]
    by_cases e : i = n
    · subst e
      have : sumTo (fset f i v) i = sumTo f i := sumTo_congr i (fun j hj => by simp [fset, show j ≠ i by omega])
      rw [this]
      simp only [fset, if_true]
      omega
    · have h1 := sumTo_down (f := f) (i := i) (v := v) n (by omega) hv
      have h2 : fset f i v n = f n := by simp [fset, show n ≠ i by omega]
      omega
section
variable {w W : World} {b : Nat} {rv : Value} {m : Nat} {ps : List Nat} {ts : List Tk} {H : Int → Option Int} {st xb : Nat} {dv tv : Value} {T : List Int} {M : Nat} {q : Nat → Nat} {lv : Nat → Value} {ls : Nat → List (Int × Int)} {at_ : Nat → Nat} {n tot : Nat}
theorem Ap.okl (h : Ap w W b rv m ps ts H st xb dv tv T M q lv ls at_ n tot) : ∀ t ∈ ts, TkOk st t := fun t ht => by
  obtain ⟨i, hi⟩ := List.mem_iff_getElem?.1 ht
  exact h.ti.ok i t hi
theorem Ap.below {W' : World} (h : Ap w W b rv m ps ts H st xb dv tv T M q lv ls at_ n tot) (hB : Go.RowKit.Below W.heap.size W W') : Ap w W' b rv m ps ts H st xb dv tv T M q lv ls at_ n tot := ⟨h.ps.below hB, h.ti, h.la, h.tl⟩
theorem ap_pick (h : Ap w W b rv m ps ts H st xb dv tv T M q lv ls at_ n tot) (hn : n ≤ 64) (htot : tot ≤ 900000) (hst : st < 3000000) (hls : ∀ i, i < n → ∀ y ∈ ls i, I64 y.1 ∧ I64 y.2) (hll : ∀ i, i < n → (ls i).length ≤ 10000000) {L : List Nat} (hL : nums (mayB H st) 0 ts = L) {j x : Nat} (hj : j ≤ 9223372036854775807) (hx : L[j % L.length]? = some x) :
    Calls Try.prog 16 #[ptr b, .int .i64 j] W fun e w' => ∃ er : Int, e = .returned (.tuple #[.int .i64 x, .int .i64 er]) ∧ ∃ ts' H' tv' T' at', Ap w w' b rv m ps ts' H' (st + 1) xb dv tv' T' M q lv ls at' n tot := by
  have hxm : x ∈ nums (mayB H st) 0 ts := by rw [hL]; exact List.mem_of_getElem? hx
  obtain ⟨i, t, hi0, ht, hq⟩ := nums_iff.1 hxm
  obtain rfl : x = i := by omega
  have hxn : x < n := by rw [← h.ti.len]; exact (List.getElem?_eq_some_iff.1 ht).1
  have hk4 : t.kind ≠ 4 := by
    intro e
    unfold mayB at hq
    rw [e] at hq
    simp at hq
  have hgo := ti_go h.ti (x := x) ⟨t, ht, hk4⟩
  rw [goAt_some ht] at hgo
  obtain ⟨R, hR⟩ : ∃ R, R = stepG x ((ls x).drop (at_ x)) (ts.set x t.goes) (lockd H t x) T (at_ x) := ⟨_, rfl⟩
  have hactx : ∀ y ∈ (ls x).drop (at_ x), I64 y.1 ∧ I64 y.2 := fun y hy => hls x hxn y (List.mem_of_mem_drop hy)
  obtain ⟨i1, i2, i3, i4, i5, i6⟩ := stepG_inv (m := x) ((ls x).drop (at_ x)) (ts.set x t.goes) (lockd H t x) T (at_ x) hactx hgo.1
  rw [← hR] at i1 i2 i3 i4 i5 i6
  rw [List.length_drop] at i3
  have hlax := h.la x hxn
  have hge := sumTo_ge (f := fun i => (ls i).length - at_ i) n hxn
  have htl := h.tl
  refine (psg_pick h.ps (by unfold maxLen; omega) hn (by omega) h.okl hL hj hx ht (h.ti.stp x t ht hk4) hlax (hll x hxn) (by omega) (hls x hxn) h.ti.apt hR).mono ?_
  rintro e w' ⟨he, tv', P⟩
  refine ⟨_, he, _, _, tv', _, _, P, ?_, ?_, ?_⟩
  · obtain ⟨t2, ht2, hk2⟩ := i6 x (hgo.2 x ⟨t, ht, hk4⟩)
    unfold fin
    rw [ht2]
    cases hw : R.wish with
    | some ko =>
      obtain ⟨k, o⟩ := ko
      obtain ⟨a1, a2⟩ := i5 k o hw
      exact ti_wish i1 ht2 hk2 a1 a2 t2.failed
    | none => exact ti_wish i1 ht2 hk2 (by unfold I64; omega) (by unfold I64; omega) true
  · intro i hi
    by_cases e : i = x
    · subst e
      simp only [fset, if_true]
      omega
    · simp only [fset, e, if_false]
      exact h.la i hi
  · have g : (fun i => (ls i).length - fset at_ x R.at_ i) = fset (fun i => (ls i).length - at_ i) x ((ls x).length - R.at_) := by
      funext i
      by_cases e : i = x
      · subst e; simp [fset]
      · simp [fset, e]
    rw [g]
    have := sumTo_down (f := fun i => (ls i).length - at_ i) (v := (ls x).length - R.at_) n hxn (by omega)
    omega
end
end Go.Proofs.Ytkdjahgndkdnhaa
