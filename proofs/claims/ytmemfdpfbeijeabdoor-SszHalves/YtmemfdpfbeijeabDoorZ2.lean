/- The sum of a text of 64 bytes, reckoned round by round. -/
import Derived.Test.YtmemfdpfbeijeabDoorZ1
namespace Go.Proofs.YtmemfdpfbeijeabDoor
open Go.RowKit Go.Sort

def t64 : ByteArray := ⟨#[0, 0, 0, 0, 0, 0, 0, 0, 0, 0, 0, 0, 0, 0, 0, 0, 0, 0, 0, 0, 0, 0, 0, 0, 0, 0, 0, 0, 0, 0, 0, 0, 0, 0, 0, 0, 0, 0, 0, 0, 0, 0, 0, 0, 0, 0, 0, 0, 0, 0, 0, 0, 0, 0, 0, 0, 0, 0, 0, 0, 0, 0, 0, 0]⟩
def xawl : List Int := [0, 0, 0, 0, 0, 0, 0, 0, 0, 0, 0, 0, 0, 0, 0, 0, 0, 0, 0, 0, 0, 0, 0, 0, 0, 0, 0, 0, 0, 0, 0, 0, 0, 0, 0, 0, 0, 0, 0, 0, 0, 0, 0, 0, 0, 0, 0, 0, 0, 0, 0, 0, 0, 0, 0, 0, 0, 0, 0, 0, 0, 0, 0, 0]
theorem xaw0 : ∀ j : Fin 16, lit xawl j.val = blk (headOf t64) 0 j.val := by decide +kernel
theorem xaw1 : ∀ t : Fin 48, lit xawl (16 + t.val) = nxt (lit xawl) (16 + t.val) := by decide +kernel
theorem xasp (j : Nat) (hj : j < 64) : spreadOf (blk (headOf t64) 0) j = lit xawl j :=
  spread_is _ (lit xawl) (fun j hj => xaw0 ⟨j, hj⟩) (fun t h1 h2 => by have := xaw1 ⟨t - 16, by omega⟩; rwa [show 16 + (t - 16) = t by omega] at this) 48 (Nat.le_refl _) j hj
def xaq0 : Ei := ⟨1779033703, 3144134277, 1013904242, 2773480762, 1359893119, 2600822924, 528734635, 1541459225⟩
def xaq1 : Ei := ⟨4228417613, 1779033703, 3144134277, 1013904242, 2563236514, 1359893119, 2600822924, 528734635⟩
def xaq2 : Ei := ⟨2061066896, 4228417613, 1779033703, 3144134277, 2649862678, 2563236514, 1359893119, 2600822924⟩
def xaq3 : Ei := ⟨4091374655, 2061066896, 4228417613, 1779033703, 3313199355, 2649862678, 2563236514, 1359893119⟩
def xaq4 : Ei := ⟨170176938, 4091374655, 2061066896, 4228417613, 2426205641, 3313199355, 2649862678, 2563236514⟩
def xaq5 : Ei := ⟨1218429566, 170176938, 4091374655, 2061066896, 749409450, 2426205641, 3313199355, 2649862678⟩
def xaq6 : Ei := ⟨1806883463, 1218429566, 170176938, 4091374655, 2635206550, 749409450, 2426205641, 3313199355⟩
def xaq7 : Ei := ⟨2522794722, 1806883463, 1218429566, 170176938, 2043112922, 2635206550, 749409450, 2426205641⟩
def xaq8 : Ei := ⟨1581879219, 2522794722, 1806883463, 1218429566, 2485578848, 2043112922, 2635206550, 749409450⟩
def xaq9 : Ei := ⟨630097338, 1581879219, 2522794722, 1806883463, 2208112828, 2485578848, 2043112922, 2635206550⟩
def xaq10 : Ei := ⟨2279417502, 630097338, 1581879219, 2522794722, 1050479591, 2208112828, 2485578848, 2043112922⟩
def xaq11 : Ei := ⟨3099050328, 2279417502, 630097338, 1581879219, 1706030895, 1050479591, 2208112828, 2485578848⟩
def xaq12 : Ei := ⟨3235833870, 3099050328, 2279417502, 630097338, 2107349789, 1706030895, 1050479591, 2208112828⟩
def xaq13 : Ei := ⟨1178652117, 3235833870, 3099050328, 2279417502, 1594747770, 2107349789, 1706030895, 1050479591⟩
def xaq14 : Ei := ⟨986572295, 1178652117, 3235833870, 3099050328, 3318148831, 1594747770, 2107349789, 1706030895⟩
def xaq15 : Ei := ⟨3525469376, 986572295, 1178652117, 3235833870, 2130347788, 3318148831, 1594747770, 2107349789⟩
def xaq16 : Ei := ⟨529866418, 3525469376, 986572295, 1178652117, 4078311056, 2130347788, 3318148831, 1594747770⟩
def xaq17 : Ei := ⟨367693927, 529866418, 3525469376, 986572295, 462849088, 4078311056, 2130347788, 3318148831⟩
def xaq18 : Ei := ⟨1943532089, 367693927, 529866418, 3525469376, 2868915268, 462849088, 4078311056, 2130347788⟩
def xaq19 : Ei := ⟨2932840628, 1943532089, 367693927, 529866418, 3592676163, 2868915268, 462849088, 4078311056⟩
def xaq20 : Ei := ⟨567187925, 2932840628, 1943532089, 367693927, 958391656, 3592676163, 2868915268, 462849088⟩
def xaq21 : Ei := ⟨1042487203, 567187925, 2932840628, 1943532089, 1937773263, 958391656, 3592676163, 2868915268⟩
def xaq22 : Ei := ⟨2086730723, 1042487203, 567187925, 2932840628, 3264846943, 1937773263, 958391656, 3592676163⟩
def xaq23 : Ei := ⟨652608802, 2086730723, 1042487203, 567187925, 359051749, 3264846943, 1937773263, 958391656⟩
def xaq24 : Ei := ⟨2775063474, 652608802, 2086730723, 1042487203, 1343774465, 359051749, 3264846943, 1937773263⟩
def xaq25 : Ei := ⟨2156387130, 2775063474, 652608802, 2086730723, 3316183042, 1343774465, 359051749, 3264846943⟩
def xaq26 : Ei := ⟨2781806737, 2156387130, 2775063474, 652608802, 380684368, 3316183042, 1343774465, 359051749⟩
def xaq27 : Ei := ⟨337293918, 2781806737, 2156387130, 2775063474, 1127543555, 380684368, 3316183042, 1343774465⟩
def xaq28 : Ei := ⟨2400639463, 337293918, 2781806737, 2156387130, 850390893, 1127543555, 380684368, 3316183042⟩
def xaq29 : Ei := ⟨2652249513, 2400639463, 337293918, 2781806737, 568399641, 850390893, 1127543555, 380684368⟩
def xaq30 : Ei := ⟨923590945, 2652249513, 2400639463, 337293918, 1812297249, 568399641, 850390893, 1127543555⟩
def xaq31 : Ei := ⟨3593886197, 923590945, 2652249513, 2400639463, 3555470783, 1812297249, 568399641, 850390893⟩
def xaq32 : Ei := ⟨1591520263, 3593886197, 923590945, 2652249513, 4103617462, 3555470783, 1812297249, 568399641⟩
def xaq33 : Ei := ⟨512844204, 1591520263, 3593886197, 923590945, 2706167185, 4103617462, 3555470783, 1812297249⟩
def xaq34 : Ei := ⟨2373658994, 512844204, 1591520263, 3593886197, 380732500, 2706167185, 4103617462, 3555470783⟩
def xaq35 : Ei := ⟨2793679469, 2373658994, 512844204, 1591520263, 1500639116, 380732500, 2706167185, 4103617462⟩
def xaq36 : Ei := ⟨689815065, 2793679469, 2373658994, 512844204, 3473127572, 1500639116, 380732500, 2706167185⟩
def xaq37 : Ei := ⟨2585135331, 689815065, 2793679469, 2373658994, 1058274375, 3473127572, 1500639116, 380732500⟩
def xaq38 : Ei := ⟨2654199797, 2585135331, 689815065, 2793679469, 2279604766, 1058274375, 3473127572, 1500639116⟩
def xaq39 : Ei := ⟨3850261399, 2654199797, 2585135331, 689815065, 2592804600, 2279604766, 1058274375, 3473127572⟩
def xaq40 : Ei := ⟨3169457352, 3850261399, 2654199797, 2585135331, 2871170664, 2592804600, 2279604766, 1058274375⟩
def xaq41 : Ei := ⟨1294949930, 3169457352, 3850261399, 2654199797, 161402535, 2871170664, 2592804600, 2279604766⟩
def xaq42 : Ei := ⟨527267990, 1294949930, 3169457352, 3850261399, 4040288829, 161402535, 2871170664, 2592804600⟩
def xaq43 : Ei := ⟨1426789879, 527267990, 1294949930, 3169457352, 646975441, 4040288829, 161402535, 2871170664⟩
def xaq44 : Ei := ⟨1187396118, 1426789879, 527267990, 1294949930, 1339113911, 646975441, 4040288829, 161402535⟩
def xaq45 : Ei := ⟨1181999399, 1187396118, 1426789879, 527267990, 3798476044, 1339113911, 646975441, 4040288829⟩
def xaq46 : Ei := ⟨296218653, 1181999399, 1187396118, 1426789879, 3551518893, 3798476044, 1339113911, 646975441⟩
def xaq47 : Ei := ⟨4454560, 296218653, 1181999399, 1187396118, 3005618434, 3551518893, 3798476044, 1339113911⟩
def xaq48 : Ei := ⟨3096899724, 4454560, 296218653, 1181999399, 872857159, 3005618434, 3551518893, 3798476044⟩
def xaq49 : Ei := ⟨3375379330, 3096899724, 4454560, 296218653, 228186535, 872857159, 3005618434, 3551518893⟩
def xaq50 : Ei := ⟨2196777820, 3375379330, 3096899724, 4454560, 502324404, 228186535, 872857159, 3005618434⟩
def xaq51 : Ei := ⟨172316037, 2196777820, 3375379330, 3096899724, 3336809276, 502324404, 228186535, 872857159⟩
def xaq52 : Ei := ⟨3798361939, 172316037, 2196777820, 3375379330, 345903353, 3336809276, 502324404, 228186535⟩
def xaq53 : Ei := ⟨3876681316, 3798361939, 172316037, 2196777820, 3527507235, 345903353, 3336809276, 502324404⟩
def xaq54 : Ei := ⟨1048208192, 3876681316, 3798361939, 172316037, 267002057, 3527507235, 345903353, 3336809276⟩
def xaq55 : Ei := ⟨3748112950, 1048208192, 3876681316, 3798361939, 120073345, 267002057, 3527507235, 345903353⟩
def xaq56 : Ei := ⟨3432719604, 3748112950, 1048208192, 3876681316, 918970134, 120073345, 267002057, 3527507235⟩
def xaq57 : Ei := ⟨2243565776, 3432719604, 3748112950, 1048208192, 373091818, 918970134, 120073345, 267002057⟩
def xaq58 : Ei := ⟨2286265666, 2243565776, 3432719604, 3748112950, 3917149596, 373091818, 918970134, 120073345⟩
def xaq59 : Ei := ⟨1260053831, 2286265666, 2243565776, 3432719604, 4283910481, 3917149596, 373091818, 918970134⟩
def xaq60 : Ei := ⟨2415069175, 1260053831, 2286265666, 2243565776, 1074367231, 4283910481, 3917149596, 373091818⟩
def xaq61 : Ei := ⟨3528444304, 2415069175, 1260053831, 2286265666, 3159809215, 1074367231, 4283910481, 3917149596⟩
def xaq62 : Ei := ⟨633627687, 3528444304, 2415069175, 1260053831, 2608537663, 3159809215, 1074367231, 4283910481⟩
def xaq63 : Ei := ⟨1548879332, 633627687, 3528444304, 2415069175, 634190263, 2608537663, 3159809215, 1074367231⟩
def xaq64 : Ei := ⟨1884074583, 1548879332, 633627687, 3528444304, 1003979282, 634190263, 2608537663, 3159809215⟩
theorem xar0 : stepE xaq0 (kc 0) (lit xawl 0) = xaq1 := eqE_eq (by decide +kernel)
theorem xar1 : stepE xaq1 (kc 1) (lit xawl 1) = xaq2 := eqE_eq (by decide +kernel)
theorem xar2 : stepE xaq2 (kc 2) (lit xawl 2) = xaq3 := eqE_eq (by decide +kernel)
theorem xar3 : stepE xaq3 (kc 3) (lit xawl 3) = xaq4 := eqE_eq (by decide +kernel)
theorem xar4 : stepE xaq4 (kc 4) (lit xawl 4) = xaq5 := eqE_eq (by decide +kernel)
theorem xar5 : stepE xaq5 (kc 5) (lit xawl 5) = xaq6 := eqE_eq (by decide +kernel)
theorem xar6 : stepE xaq6 (kc 6) (lit xawl 6) = xaq7 := eqE_eq (by decide +kernel)
theorem xar7 : stepE xaq7 (kc 7) (lit xawl 7) = xaq8 := eqE_eq (by decide +kernel)
theorem xar8 : stepE xaq8 (kc 8) (lit xawl 8) = xaq9 := eqE_eq (by decide +kernel)
theorem xar9 : stepE xaq9 (kc 9) (lit xawl 9) = xaq10 := eqE_eq (by decide +kernel)
theorem xar10 : stepE xaq10 (kc 10) (lit xawl 10) = xaq11 := eqE_eq (by decide +kernel)
theorem xar11 : stepE xaq11 (kc 11) (lit xawl 11) = xaq12 := eqE_eq (by decide +kernel)
theorem xar12 : stepE xaq12 (kc 12) (lit xawl 12) = xaq13 := eqE_eq (by decide +kernel)
theorem xar13 : stepE xaq13 (kc 13) (lit xawl 13) = xaq14 := eqE_eq (by decide +kernel)
theorem xar14 : stepE xaq14 (kc 14) (lit xawl 14) = xaq15 := eqE_eq (by decide +kernel)
theorem xar15 : stepE xaq15 (kc 15) (lit xawl 15) = xaq16 := eqE_eq (by decide +kernel)
theorem xar16 : stepE xaq16 (kc 16) (lit xawl 16) = xaq17 := eqE_eq (by decide +kernel)
theorem xar17 : stepE xaq17 (kc 17) (lit xawl 17) = xaq18 := eqE_eq (by decide +kernel)
theorem xar18 : stepE xaq18 (kc 18) (lit xawl 18) = xaq19 := eqE_eq (by decide +kernel)
theorem xar19 : stepE xaq19 (kc 19) (lit xawl 19) = xaq20 := eqE_eq (by decide +kernel)
theorem xar20 : stepE xaq20 (kc 20) (lit xawl 20) = xaq21 := eqE_eq (by decide +kernel)
theorem xar21 : stepE xaq21 (kc 21) (lit xawl 21) = xaq22 := eqE_eq (by decide +kernel)
theorem xar22 : stepE xaq22 (kc 22) (lit xawl 22) = xaq23 := eqE_eq (by decide +kernel)
theorem xar23 : stepE xaq23 (kc 23) (lit xawl 23) = xaq24 := eqE_eq (by decide +kernel)
theorem xar24 : stepE xaq24 (kc 24) (lit xawl 24) = xaq25 := eqE_eq (by decide +kernel)
theorem xar25 : stepE xaq25 (kc 25) (lit xawl 25) = xaq26 := eqE_eq (by decide +kernel)
theorem xar26 : stepE xaq26 (kc 26) (lit xawl 26) = xaq27 := eqE_eq (by decide +kernel)
theorem xar27 : stepE xaq27 (kc 27) (lit xawl 27) = xaq28 := eqE_eq (by decide +kernel)
theorem xar28 : stepE xaq28 (kc 28) (lit xawl 28) = xaq29 := eqE_eq (by decide +kernel)
theorem xar29 : stepE xaq29 (kc 29) (lit xawl 29) = xaq30 := eqE_eq (by decide +kernel)
theorem xar30 : stepE xaq30 (kc 30) (lit xawl 30) = xaq31 := eqE_eq (by decide +kernel)
theorem xar31 : stepE xaq31 (kc 31) (lit xawl 31) = xaq32 := eqE_eq (by decide +kernel)
theorem xar32 : stepE xaq32 (kc 32) (lit xawl 32) = xaq33 := eqE_eq (by decide +kernel)
theorem xar33 : stepE xaq33 (kc 33) (lit xawl 33) = xaq34 := eqE_eq (by decide +kernel)
theorem xar34 : stepE xaq34 (kc 34) (lit xawl 34) = xaq35 := eqE_eq (by decide +kernel)
theorem xar35 : stepE xaq35 (kc 35) (lit xawl 35) = xaq36 := eqE_eq (by decide +kernel)
theorem xar36 : stepE xaq36 (kc 36) (lit xawl 36) = xaq37 := eqE_eq (by decide +kernel)
theorem xar37 : stepE xaq37 (kc 37) (lit xawl 37) = xaq38 := eqE_eq (by decide +kernel)
theorem xar38 : stepE xaq38 (kc 38) (lit xawl 38) = xaq39 := eqE_eq (by decide +kernel)
theorem xar39 : stepE xaq39 (kc 39) (lit xawl 39) = xaq40 := eqE_eq (by decide +kernel)
theorem xar40 : stepE xaq40 (kc 40) (lit xawl 40) = xaq41 := eqE_eq (by decide +kernel)
theorem xar41 : stepE xaq41 (kc 41) (lit xawl 41) = xaq42 := eqE_eq (by decide +kernel)
theorem xar42 : stepE xaq42 (kc 42) (lit xawl 42) = xaq43 := eqE_eq (by decide +kernel)
theorem xar43 : stepE xaq43 (kc 43) (lit xawl 43) = xaq44 := eqE_eq (by decide +kernel)
theorem xar44 : stepE xaq44 (kc 44) (lit xawl 44) = xaq45 := eqE_eq (by decide +kernel)
theorem xar45 : stepE xaq45 (kc 45) (lit xawl 45) = xaq46 := eqE_eq (by decide +kernel)
theorem xar46 : stepE xaq46 (kc 46) (lit xawl 46) = xaq47 := eqE_eq (by decide +kernel)
theorem xar47 : stepE xaq47 (kc 47) (lit xawl 47) = xaq48 := eqE_eq (by decide +kernel)
theorem xar48 : stepE xaq48 (kc 48) (lit xawl 48) = xaq49 := eqE_eq (by decide +kernel)
theorem xar49 : stepE xaq49 (kc 49) (lit xawl 49) = xaq50 := eqE_eq (by decide +kernel)
theorem xar50 : stepE xaq50 (kc 50) (lit xawl 50) = xaq51 := eqE_eq (by decide +kernel)
theorem xar51 : stepE xaq51 (kc 51) (lit xawl 51) = xaq52 := eqE_eq (by decide +kernel)
theorem xar52 : stepE xaq52 (kc 52) (lit xawl 52) = xaq53 := eqE_eq (by decide +kernel)
theorem xar53 : stepE xaq53 (kc 53) (lit xawl 53) = xaq54 := eqE_eq (by decide +kernel)
theorem xar54 : stepE xaq54 (kc 54) (lit xawl 54) = xaq55 := eqE_eq (by decide +kernel)
theorem xar55 : stepE xaq55 (kc 55) (lit xawl 55) = xaq56 := eqE_eq (by decide +kernel)
theorem xar56 : stepE xaq56 (kc 56) (lit xawl 56) = xaq57 := eqE_eq (by decide +kernel)
theorem xar57 : stepE xaq57 (kc 57) (lit xawl 57) = xaq58 := eqE_eq (by decide +kernel)
theorem xar58 : stepE xaq58 (kc 58) (lit xawl 58) = xaq59 := eqE_eq (by decide +kernel)
theorem xar59 : stepE xaq59 (kc 59) (lit xawl 59) = xaq60 := eqE_eq (by decide +kernel)
theorem xar60 : stepE xaq60 (kc 60) (lit xawl 60) = xaq61 := eqE_eq (by decide +kernel)
theorem xar61 : stepE xaq61 (kc 61) (lit xawl 61) = xaq62 := eqE_eq (by decide +kernel)
theorem xar62 : stepE xaq62 (kc 62) (lit xawl 62) = xaq63 := eqE_eq (by decide +kernel)
theorem xar63 : stepE xaq63 (kc 63) (lit xawl 63) = xaq64 := eqE_eq (by decide +kernel)
theorem xanx {n : Nat} {v a b : Ei} (h : runE v (lit xawl) n = a) (s : stepE a (kc n) (lit xawl n) = b) : runE v (lit xawl) (n + 1) = b := by rw [runE, h, s]
theorem xaall : runE xaq0 (lit xawl) 64 = xaq64 :=
  (xanx (xanx (xanx (xanx (xanx (xanx (xanx (xanx (xanx (xanx (xanx (xanx (xanx (xanx (xanx (xanx (xanx (xanx (xanx (xanx (xanx (xanx (xanx (xanx (xanx (xanx (xanx (xanx (xanx (xanx (xanx (xanx (xanx (xanx (xanx (xanx (xanx (xanx (xanx (xanx (xanx (xanx (xanx (xanx (xanx (xanx (xanx (xanx (xanx (xanx (xanx (xanx (xanx (xanx (xanx (xanx (xanx (xanx (xanx (xanx (xanx (xanx (xanx (xanx (show runE xaq0 (lit xawl) 0 = xaq0 from rfl) xar0) xar1) xar2) xar3) xar4) xar5) xar6) xar7) xar8) xar9) xar10) xar11) xar12) xar13) xar14) xar15) xar16) xar17) xar18) xar19) xar20) xar21) xar22) xar23) xar24) xar25) xar26) xar27) xar28) xar29) xar30) xar31) xar32) xar33) xar34) xar35) xar36) xar37) xar38) xar39) xar40) xar41) xar42) xar43) xar44) xar45) xar46) xar47) xar48) xar49) xar50) xar51) xar52) xar53) xar54) xar55) xar56) xar57) xar58) xar59) xar60) xar61) xar62) xar63)
theorem xatk : takeOf xaq0 (spreadOf (blk (headOf t64) 0)) = ⟨3663108286, 398046313, 1647531929, 2006957770, 2363872401, 3235013187, 3137272298, 406301144⟩ := by
  unfold takeOf
  rw [runE_ext xaq0 _ (lit xawl) 64 (fun j hj => xasp j hj), xaall]
  exact eqE_eq (by decide +kernel)
def xbwl : List Int := [2147483648, 0, 0, 0, 0, 0, 0, 0, 0, 0, 0, 0, 0, 0, 0, 512, 2147483648, 20971520, 2117632, 20616, 570427392, 575995924, 84449090, 2684354592, 1518862336, 6067200, 1496221, 4202700544, 3543279056, 291985753, 4142317530, 3003913545, 145928272, 2642168871, 216179603, 2296832490, 2771075893, 1738633033, 3610378607, 1324035729, 1572820453, 2397971253, 3803995842, 2822718356, 1168996599, 921948365, 3650881000, 2958106055, 1773959876, 3172022107, 3820646885, 991993842, 419360279, 3797604839, 322392134, 85264541, 1326255876, 640108622, 822159570, 3328750644, 1107837388, 1657999800, 3852183409, 2242356356]
theorem xbw0 : ∀ j : Fin 16, lit xbwl j.val = blk (lastOf t64) 0 j.val := by decide +kernel
theorem xbw1 : ∀ t : Fin 48, lit xbwl (16 + t.val) = nxt (lit xbwl) (16 + t.val) := by decide +kernel
theorem xbsp (j : Nat) (hj : j < 64) : spreadOf (blk (lastOf t64) 0) j = lit xbwl j :=
  spread_is _ (lit xbwl) (fun j hj => xbw0 ⟨j, hj⟩) (fun t h1 h2 => by have := xbw1 ⟨t - 16, by omega⟩; rwa [show 16 + (t - 16) = t by omega] at this) 48 (Nat.le_refl _) j hj
def xbq0 : Ei := ⟨3663108286, 398046313, 1647531929, 2006957770, 2363872401, 3235013187, 3137272298, 406301144⟩
def xbq1 : Ei := ⟨2948180660, 3663108286, 398046313, 1647531929, 2888058067, 2363872401, 3235013187, 3137272298⟩
def xbq2 : Ei := ⟨4172259315, 2948180660, 3663108286, 398046313, 575109362, 2888058067, 2363872401, 3235013187⟩
def xbq3 : Ei := ⟨3543455514, 4172259315, 2948180660, 3663108286, 811795307, 575109362, 2888058067, 2363872401⟩
def xbq4 : Ei := ⟨3993932283, 3543455514, 4172259315, 2948180660, 3982476251, 811795307, 575109362, 2888058067⟩
def xbq5 : Ei := ⟨187780935, 3993932283, 3543455514, 4172259315, 1923163726, 3982476251, 811795307, 575109362⟩
def xbq6 : Ei := ⟨3323032484, 187780935, 3993932283, 3543455514, 1975723461, 1923163726, 3982476251, 811795307⟩
def xbq7 : Ei := ⟨3215595031, 3323032484, 187780935, 3993932283, 3680541136, 1975723461, 1923163726, 3982476251⟩
def xbq8 : Ei := ⟨1505217993, 3215595031, 3323032484, 187780935, 3246776978, 3680541136, 1975723461, 1923163726⟩
def xbq9 : Ei := ⟨3797825600, 1505217993, 3215595031, 3323032484, 650908760, 3246776978, 3680541136, 1975723461⟩
def xbq10 : Ei := ⟨1840286655, 3797825600, 1505217993, 3215595031, 3046261690, 650908760, 3246776978, 3680541136⟩
def xbq11 : Ei := ⟨1730749032, 1840286655, 3797825600, 1505217993, 2019752921, 3046261690, 650908760, 3246776978⟩
def xbq12 : Ei := ⟨2450329008, 1730749032, 1840286655, 3797825600, 3599491266, 2019752921, 3046261690, 650908760⟩
def xbq13 : Ei := ⟨1172836956, 2450329008, 1730749032, 1840286655, 1139551640, 3599491266, 2019752921, 3046261690⟩
def xbq14 : Ei := ⟨1074218691, 1172836956, 2450329008, 1730749032, 1119712586, 1139551640, 3599491266, 2019752921⟩
def xbq15 : Ei := ⟨83071676, 1074218691, 1172836956, 2450329008, 823054794, 1119712586, 1139551640, 3599491266⟩
def xbq16 : Ei := ⟨293115665, 83071676, 1074218691, 1172836956, 67919557, 823054794, 1119712586, 1139551640⟩
def xbq17 : Ei := ⟨3571670123, 293115665, 83071676, 1074218691, 4224511473, 67919557, 823054794, 1119712586⟩
def xbq18 : Ei := ⟨2205958654, 3571670123, 293115665, 83071676, 326636341, 4224511473, 67919557, 823054794⟩
def xbq19 : Ei := ⟨1455974995, 2205958654, 3571670123, 293115665, 1813427716, 326636341, 4224511473, 67919557⟩
def xbq20 : Ei := ⟨331526477, 1455974995, 2205958654, 3571670123, 2815499863, 1813427716, 326636341, 4224511473⟩
def xbq21 : Ei := ⟨3573036661, 331526477, 1455974995, 2205958654, 3518376824, 2815499863, 1813427716, 326636341⟩
def xbq22 : Ei := ⟨36517803, 3573036661, 331526477, 1455974995, 144165445, 3518376824, 2815499863, 1813427716⟩
def xbq23 : Ei := ⟨1761782976, 36517803, 3573036661, 331526477, 3822382875, 144165445, 3518376824, 2815499863⟩
def xbq24 : Ei := ⟨3978244068, 1761782976, 36517803, 3573036661, 1237895119, 3822382875, 144165445, 3518376824⟩
def xbq25 : Ei := ⟨3371215372, 3978244068, 1761782976, 36517803, 4227497965, 1237895119, 3822382875, 144165445⟩
def xbq26 : Ei := ⟨1013406151, 3371215372, 3978244068, 1761782976, 3029304457, 4227497965, 1237895119, 3822382875⟩
def xbq27 : Ei := ⟨111047685, 1013406151, 3371215372, 3978244068, 3873622855, 3029304457, 4227497965, 1237895119⟩
def xbq28 : Ei := ⟨1821787571, 111047685, 1013406151, 3371215372, 3026141098, 3873622855, 3029304457, 4227497965⟩
def xbq29 : Ei := ⟨2267409641, 1821787571, 111047685, 1013406151, 1943537922, 3026141098, 3873622855, 3029304457⟩
def xbq30 : Ei := ⟨2909543734, 2267409641, 1821787571, 111047685, 1376136787, 1943537922, 3026141098, 3873622855⟩
def xbq31 : Ei := ⟨4276190780, 2909543734, 2267409641, 1821787571, 1707142646, 1376136787, 1943537922, 3026141098⟩
def xbq32 : Ei := ⟨1340523263, 4276190780, 2909543734, 2267409641, 3245355255, 1707142646, 1376136787, 1943537922⟩
def xbq33 : Ei := ⟨3227130086, 1340523263, 4276190780, 2909543734, 4170413275, 3245355255, 1707142646, 1376136787⟩
def xbq34 : Ei := ⟨2386232016, 3227130086, 1340523263, 4276190780, 1300342048, 4170413275, 3245355255, 1707142646⟩
def xbq35 : Ei := ⟨371872044, 2386232016, 3227130086, 1340523263, 1838143774, 1300342048, 4170413275, 3245355255⟩
def xbq36 : Ei := ⟨3298848131, 371872044, 2386232016, 3227130086, 1755220573, 1838143774, 1300342048, 4170413275⟩
def xbq37 : Ei := ⟨2219676381, 3298848131, 371872044, 2386232016, 2717726930, 1755220573, 1838143774, 1300342048⟩
def xbq38 : Ei := ⟨2354580715, 2219676381, 3298848131, 371872044, 3568733540, 2717726930, 1755220573, 1838143774⟩
def xbq39 : Ei := ⟨1016170808, 2354580715, 2219676381, 3298848131, 3925474766, 3568733540, 2717726930, 1755220573⟩
def xbq40 : Ei := ⟨374317484, 1016170808, 2354580715, 2219676381, 1305812998, 3925474766, 3568733540, 2717726930⟩
def xbq41 : Ei := ⟨3266217399, 374317484, 1016170808, 2354580715, 4096566429, 1305812998, 3925474766, 3568733540⟩
def xbq42 : Ei := ⟨3378771701, 3266217399, 374317484, 1016170808, 3626571537, 4096566429, 1305812998, 3925474766⟩
def xbq43 : Ei := ⟨594230501, 3378771701, 3266217399, 374317484, 1398783713, 3626571537, 4096566429, 1305812998⟩
def xbq44 : Ei := ⟨1859004129, 594230501, 3378771701, 3266217399, 3199324843, 1398783713, 3626571537, 4096566429⟩
def xbq45 : Ei := ⟨3229193060, 1859004129, 594230501, 3378771701, 3281610692, 3199324843, 1398783713, 3626571537⟩
def xbq46 : Ei := ⟨1335158894, 3229193060, 1859004129, 594230501, 1763161194, 3281610692, 3199324843, 1398783713⟩
def xbq47 : Ei := ⟨2046970888, 1335158894, 3229193060, 1859004129, 3411666695, 1763161194, 3281610692, 3199324843⟩
def xbq48 : Ei := ⟨3727355981, 2046970888, 1335158894, 3229193060, 2331306954, 3411666695, 1763161194, 3281610692⟩
def xbq49 : Ei := ⟨394683839, 3727355981, 2046970888, 1335158894, 467113627, 2331306954, 3411666695, 1763161194⟩
def xbq50 : Ei := ⟨3013009807, 394683839, 3727355981, 2046970888, 3013184750, 467113627, 2331306954, 3411666695⟩
def xbq51 : Ei := ⟨819336646, 3013009807, 394683839, 3727355981, 1479763493, 3013184750, 467113627, 2331306954⟩
def xbq52 : Ei := ⟨83769112, 819336646, 3013009807, 394683839, 893363924, 1479763493, 3013184750, 467113627⟩
def xbq53 : Ei := ⟨2283860666, 83769112, 819336646, 3013009807, 766335175, 893363924, 1479763493, 3013184750⟩
def xbq54 : Ei := ⟨3793250948, 2283860666, 83769112, 819336646, 3768745200, 766335175, 893363924, 1479763493⟩
def xbq55 : Ei := ⟨2527710668, 3793250948, 2283860666, 83769112, 977032976, 3768745200, 766335175, 893363924⟩
def xbq56 : Ei := ⟨4094401017, 2527710668, 3793250948, 2283860666, 2313613854, 977032976, 3768745200, 766335175⟩
def xbq57 : Ei := ⟨3065142713, 4094401017, 2527710668, 3793250948, 2887705781, 2313613854, 977032976, 3768745200⟩
def xbq58 : Ei := ⟨1758552184, 3065142713, 4094401017, 2527710668, 1260792029, 2887705781, 2313613854, 977032976⟩
def xbq59 : Ei := ⟨3345536639, 1758552184, 3065142713, 4094401017, 218647324, 1260792029, 2887705781, 2313613854⟩
def xbq60 : Ei := ⟨3861621111, 3345536639, 1758552184, 3065142713, 298384691, 218647324, 1260792029, 2887705781⟩
def xbq61 : Ei := ⟨1533663441, 3861621111, 3345536639, 1758552184, 253907315, 298384691, 218647324, 1260792029⟩
def xbq62 : Ei := ⟨3311769557, 1533663441, 3861621111, 3345536639, 798570431, 253907315, 298384691, 218647324⟩
def xbq63 : Ei := ⟨3115346887, 3311769557, 1533663441, 3861621111, 1611108005, 798570431, 253907315, 298384691⟩
def xbq64 : Ei := ⟨458187908, 3115346887, 3311769557, 1533663441, 3055184018, 1611108005, 798570431, 253907315⟩
theorem xbr0 : stepE xbq0 (kc 0) (lit xbwl 0) = xbq1 := eqE_eq (by decide +kernel)
theorem xbr1 : stepE xbq1 (kc 1) (lit xbwl 1) = xbq2 := eqE_eq (by decide +kernel)
theorem xbr2 : stepE xbq2 (kc 2) (lit xbwl 2) = xbq3 := eqE_eq (by decide +kernel)
theorem xbr3 : stepE xbq3 (kc 3) (lit xbwl 3) = xbq4 := eqE_eq (by decide +kernel)
theorem xbr4 : stepE xbq4 (kc 4) (lit xbwl 4) = xbq5 := eqE_eq (by decide +kernel)
theorem xbr5 : stepE xbq5 (kc 5) (lit xbwl 5) = xbq6 := eqE_eq (by decide +kernel)
theorem xbr6 : stepE xbq6 (kc 6) (lit xbwl 6) = xbq7 := eqE_eq (by decide +kernel)
theorem xbr7 : stepE xbq7 (kc 7) (lit xbwl 7) = xbq8 := eqE_eq (by decide +kernel)
theorem xbr8 : stepE xbq8 (kc 8) (lit xbwl 8) = xbq9 := eqE_eq (by decide +kernel)
theorem xbr9 : stepE xbq9 (kc 9) (lit xbwl 9) = xbq10 := eqE_eq (by decide +kernel)
theorem xbr10 : stepE xbq10 (kc 10) (lit xbwl 10) = xbq11 := eqE_eq (by decide +kernel)
theorem xbr11 : stepE xbq11 (kc 11) (lit xbwl 11) = xbq12 := eqE_eq (by decide +kernel)
theorem xbr12 : stepE xbq12 (kc 12) (lit xbwl 12) = xbq13 := eqE_eq (by decide +kernel)
theorem xbr13 : stepE xbq13 (kc 13) (lit xbwl 13) = xbq14 := eqE_eq (by decide +kernel)
theorem xbr14 : stepE xbq14 (kc 14) (lit xbwl 14) = xbq15 := eqE_eq (by decide +kernel)
theorem xbr15 : stepE xbq15 (kc 15) (lit xbwl 15) = xbq16 := eqE_eq (by decide +kernel)
theorem xbr16 : stepE xbq16 (kc 16) (lit xbwl 16) = xbq17 := eqE_eq (by decide +kernel)
theorem xbr17 : stepE xbq17 (kc 17) (lit xbwl 17) = xbq18 := eqE_eq (by decide +kernel)
theorem xbr18 : stepE xbq18 (kc 18) (lit xbwl 18) = xbq19 := eqE_eq (by decide +kernel)
theorem xbr19 : stepE xbq19 (kc 19) (lit xbwl 19) = xbq20 := eqE_eq (by decide +kernel)
theorem xbr20 : stepE xbq20 (kc 20) (lit xbwl 20) = xbq21 := eqE_eq (by decide +kernel)
theorem xbr21 : stepE xbq21 (kc 21) (lit xbwl 21) = xbq22 := eqE_eq (by decide +kernel)
theorem xbr22 : stepE xbq22 (kc 22) (lit xbwl 22) = xbq23 := eqE_eq (by decide +kernel)
theorem xbr23 : stepE xbq23 (kc 23) (lit xbwl 23) = xbq24 := eqE_eq (by decide +kernel)
theorem xbr24 : stepE xbq24 (kc 24) (lit xbwl 24) = xbq25 := eqE_eq (by decide +kernel)
theorem xbr25 : stepE xbq25 (kc 25) (lit xbwl 25) = xbq26 := eqE_eq (by decide +kernel)
theorem xbr26 : stepE xbq26 (kc 26) (lit xbwl 26) = xbq27 := eqE_eq (by decide +kernel)
theorem xbr27 : stepE xbq27 (kc 27) (lit xbwl 27) = xbq28 := eqE_eq (by decide +kernel)
theorem xbr28 : stepE xbq28 (kc 28) (lit xbwl 28) = xbq29 := eqE_eq (by decide +kernel)
theorem xbr29 : stepE xbq29 (kc 29) (lit xbwl 29) = xbq30 := eqE_eq (by decide +kernel)
theorem xbr30 : stepE xbq30 (kc 30) (lit xbwl 30) = xbq31 := eqE_eq (by decide +kernel)
theorem xbr31 : stepE xbq31 (kc 31) (lit xbwl 31) = xbq32 := eqE_eq (by decide +kernel)
theorem xbr32 : stepE xbq32 (kc 32) (lit xbwl 32) = xbq33 := eqE_eq (by decide +kernel)
theorem xbr33 : stepE xbq33 (kc 33) (lit xbwl 33) = xbq34 := eqE_eq (by decide +kernel)
theorem xbr34 : stepE xbq34 (kc 34) (lit xbwl 34) = xbq35 := eqE_eq (by decide +kernel)
theorem xbr35 : stepE xbq35 (kc 35) (lit xbwl 35) = xbq36 := eqE_eq (by decide +kernel)
theorem xbr36 : stepE xbq36 (kc 36) (lit xbwl 36) = xbq37 := eqE_eq (by decide +kernel)
theorem xbr37 : stepE xbq37 (kc 37) (lit xbwl 37) = xbq38 := eqE_eq (by decide +kernel)
theorem xbr38 : stepE xbq38 (kc 38) (lit xbwl 38) = xbq39 := eqE_eq (by decide +kernel)
theorem xbr39 : stepE xbq39 (kc 39) (lit xbwl 39) = xbq40 := eqE_eq (by decide +kernel)
theorem xbr40 : stepE xbq40 (kc 40) (lit xbwl 40) = xbq41 := eqE_eq (by decide +kernel)
theorem xbr41 : stepE xbq41 (kc 41) (lit xbwl 41) = xbq42 := eqE_eq (by decide +kernel)
theorem xbr42 : stepE xbq42 (kc 42) (lit xbwl 42) = xbq43 := eqE_eq (by decide +kernel)
theorem xbr43 : stepE xbq43 (kc 43) (lit xbwl 43) = xbq44 := eqE_eq (by decide +kernel)
theorem xbr44 : stepE xbq44 (kc 44) (lit xbwl 44) = xbq45 := eqE_eq (by decide +kernel)
theorem xbr45 : stepE xbq45 (kc 45) (lit xbwl 45) = xbq46 := eqE_eq (by decide +kernel)
theorem xbr46 : stepE xbq46 (kc 46) (lit xbwl 46) = xbq47 := eqE_eq (by decide +kernel)
theorem xbr47 : stepE xbq47 (kc 47) (lit xbwl 47) = xbq48 := eqE_eq (by decide +kernel)
theorem xbr48 : stepE xbq48 (kc 48) (lit xbwl 48) = xbq49 := eqE_eq (by decide +kernel)
theorem xbr49 : stepE xbq49 (kc 49) (lit xbwl 49) = xbq50 := eqE_eq (by decide +kernel)
theorem xbr50 : stepE xbq50 (kc 50) (lit xbwl 50) = xbq51 := eqE_eq (by decide +kernel)
theorem xbr51 : stepE xbq51 (kc 51) (lit xbwl 51) = xbq52 := eqE_eq (by decide +kernel)
theorem xbr52 : stepE xbq52 (kc 52) (lit xbwl 52) = xbq53 := eqE_eq (by decide +kernel)
theorem xbr53 : stepE xbq53 (kc 53) (lit xbwl 53) = xbq54 := eqE_eq (by decide +kernel)
theorem xbr54 : stepE xbq54 (kc 54) (lit xbwl 54) = xbq55 := eqE_eq (by decide +kernel)
theorem xbr55 : stepE xbq55 (kc 55) (lit xbwl 55) = xbq56 := eqE_eq (by decide +kernel)
theorem xbr56 : stepE xbq56 (kc 56) (lit xbwl 56) = xbq57 := eqE_eq (by decide +kernel)
theorem xbr57 : stepE xbq57 (kc 57) (lit xbwl 57) = xbq58 := eqE_eq (by decide +kernel)
theorem xbr58 : stepE xbq58 (kc 58) (lit xbwl 58) = xbq59 := eqE_eq (by decide +kernel)
theorem xbr59 : stepE xbq59 (kc 59) (lit xbwl 59) = xbq60 := eqE_eq (by decide +kernel)
theorem xbr60 : stepE xbq60 (kc 60) (lit xbwl 60) = xbq61 := eqE_eq (by decide +kernel)
theorem xbr61 : stepE xbq61 (kc 61) (lit xbwl 61) = xbq62 := eqE_eq (by decide +kernel)
theorem xbr62 : stepE xbq62 (kc 62) (lit xbwl 62) = xbq63 := eqE_eq (by decide +kernel)
theorem xbr63 : stepE xbq63 (kc 63) (lit xbwl 63) = xbq64 := eqE_eq (by decide +kernel)
theorem xbnx {n : Nat} {v a b : Ei} (h : runE v (lit xbwl) n = a) (s : stepE a (kc n) (lit xbwl n) = b) : runE v (lit xbwl) (n + 1) = b := by rw [runE, h, s]
theorem xball : runE xbq0 (lit xbwl) 64 = xbq64 :=
  (xbnx (xbnx (xbnx (xbnx (xbnx (xbnx (xbnx (xbnx (xbnx (xbnx (xbnx (xbnx (xbnx (xbnx (xbnx (xbnx (xbnx (xbnx (xbnx (xbnx (xbnx (xbnx (xbnx (xbnx (xbnx (xbnx (xbnx (xbnx (xbnx (xbnx (xbnx (xbnx (xbnx (xbnx (xbnx (xbnx (xbnx (xbnx (xbnx (xbnx (xbnx (xbnx (xbnx (xbnx (xbnx (xbnx (xbnx (xbnx (xbnx (xbnx (xbnx (xbnx (xbnx (xbnx (xbnx (xbnx (xbnx (xbnx (xbnx (xbnx (xbnx (xbnx (xbnx (xbnx (show runE xbq0 (lit xbwl) 0 = xbq0 from rfl) xbr0) xbr1) xbr2) xbr3) xbr4) xbr5) xbr6) xbr7) xbr8) xbr9) xbr10) xbr11) xbr12) xbr13) xbr14) xbr15) xbr16) xbr17) xbr18) xbr19) xbr20) xbr21) xbr22) xbr23) xbr24) xbr25) xbr26) xbr27) xbr28) xbr29) xbr30) xbr31) xbr32) xbr33) xbr34) xbr35) xbr36) xbr37) xbr38) xbr39) xbr40) xbr41) xbr42) xbr43) xbr44) xbr45) xbr46) xbr47) xbr48) xbr49) xbr50) xbr51) xbr52) xbr53) xbr54) xbr55) xbr56) xbr57) xbr58) xbr59) xbr60) xbr61) xbr62) xbr63)
theorem xbtk : takeOf xbq0 (spreadOf (blk (lastOf t64) 0)) = ⟨4121296194, 3513393200, 664334190, 3540621211, 1124089123, 551153896, 3935842729, 660208459⟩ := by
  unfold takeOf
  rw [runE_ext xbq0 _ (lit xbwl) 64 (fun j hj => xbsp j hj), xball]
  exact eqE_eq (by decide +kernel)
theorem t64_bk : allBk t64 = [blk (headOf t64) 0, blk (lastOf t64) 0] := by
  unfold allBk
  rw [show wholeN t64 = 1 from rfl, show (lastOf t64).size / 64 = 1 by decide +kernel]
  rfl
theorem t64_sum : sumOf t64 = ⟨#[245, 165, 253, 66, 209, 106, 32, 48, 39, 152, 239, 110, 211, 9, 151, 155, 67, 0, 61, 35, 32, 217, 240, 232, 234, 152, 49, 169, 39, 89, 251, 75]⟩ := by
  unfold sumOf
  rw [t64_bk]
  show textOf (takeOf (takeOf first8 (spreadOf (blk (headOf t64) 0))) (spreadOf (blk (lastOf t64) 0))) = _
  rw [show first8 = xaq0 from rfl, xatk, show (⟨3663108286, 398046313, 1647531929, 2006957770, 2363872401, 3235013187, 3137272298, 406301144⟩ : Ei) = xbq0 from rfl, xbtk]
  decide +kernel
end Go.Proofs.YtmemfdpfbeijeabDoor
