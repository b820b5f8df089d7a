/- The sum of a text of 64 bytes, reckoned round by round. -/
import Derived.Test.YtmemfdpfbeijeabDoorZ2
namespace Go.Proofs.YtmemfdpfbeijeabDoor
open Go.RowKit Go.Sort

def t96 : ByteArray := ⟨#[0, 0, 0, 0, 0, 0, 0, 0, 0, 0, 0, 0, 0, 0, 0, 0, 0, 0, 0, 0, 0, 0, 0, 0, 0, 0, 0, 0, 0, 0, 0, 0, 245, 165, 253, 66, 209, 106, 32, 48, 39, 152, 239, 110, 211, 9, 151, 155, 67, 0, 61, 35, 32, 217, 240, 232, 234, 152, 49, 169, 39, 89, 251, 75]⟩
def yawl : List Int := [0, 0, 0, 0, 0, 0, 0, 0, 4121296194, 3513393200, 664334190, 3540621211, 1124089123, 551153896, 3935842729, 660208459, 4031090243, 3932033191, 1239363300, 226352387, 2476133127, 1069214223, 3827423574, 4238241294, 2873120999, 4188699440, 2759758445, 453985086, 3329107472, 2447778916, 2880030067, 2746072637, 2598623461, 31423446, 1831648322, 3591490096, 2453341954, 2397726410, 83786600, 3811136673, 2147629109, 1395623308, 2238004558, 2423446376, 3767436520, 1365272603, 576843355, 2333829901, 735026546, 108642579, 1151298169, 1710128891, 1500534737, 4032048542, 3148464879, 2537998516, 1394701706, 405652872, 4121494201, 2973838674, 2560719410, 2312618076, 483927962, 4239877919]
theorem yaw0 : ∀ j : Fin 16, lit yawl j.val = blk (headOf t96) 0 j.val := by decide +kernel
theorem yaw1 : ∀ t : Fin 48, lit yawl (16 + t.val) = nxt (lit yawl) (16 + t.val) := by decide +kernel
theorem yasp (j : Nat) (hj : j < 64) : spreadOf (blk (headOf t96) 0) j = lit yawl j :=
  spread_is _ (lit yawl) (fun j hj => yaw0 ⟨j, hj⟩) (fun t h1 h2 => by have := yaw1 ⟨t - 16, by omega⟩; rwa [show 16 + (t - 16) = t by omega] at this) 48 (Nat.le_refl _) j hj
def yaq0 : Ei := ⟨1779033703, 3144134277, 1013904242, 2773480762, 1359893119, 2600822924, 528734635, 1541459225⟩
def yaq1 : Ei := ⟨4228417613, 1779033703, 3144134277, 1013904242, 2563236514, 1359893119, 2600822924, 528734635⟩
def yaq2 : Ei := ⟨2061066896, 4228417613, 1779033703, 3144134277, 2649862678, 2563236514, 1359893119, 2600822924⟩
def yaq3 : Ei := ⟨4091374655, 2061066896, 4228417613, 1779033703, 3313199355, 2649862678, 2563236514, 1359893119⟩
def yaq4 : Ei := ⟨170176938, 4091374655, 2061066896, 4228417613, 2426205641, 3313199355, 2649862678, 2563236514⟩
def yaq5 : Ei := ⟨1218429566, 170176938, 4091374655, 2061066896, 749409450, 2426205641, 3313199355, 2649862678⟩
def yaq6 : Ei := ⟨1806883463, 1218429566, 170176938, 4091374655, 2635206550, 749409450, 2426205641, 3313199355⟩
def yaq7 : Ei := ⟨2522794722, 1806883463, 1218429566, 170176938, 2043112922, 2635206550, 749409450, 2426205641⟩
def yaq8 : Ei := ⟨1581879219, 2522794722, 1806883463, 1218429566, 2485578848, 2043112922, 2635206550, 749409450⟩
def yaq9 : Ei := ⟨456426236, 1581879219, 2522794722, 1806883463, 2034441726, 2485578848, 2043112922, 2635206550⟩
def yaq10 : Ei := ⟨1521313464, 456426236, 1581879219, 2522794722, 3839732950, 2034441726, 2485578848, 2043112922⟩
def yaq11 : Ei := ⟨3601836759, 1521313464, 456426236, 1581879219, 2079162706, 3839732950, 2034441726, 2485578848⟩
def yaq12 : Ei := ⟨718841042, 3601836759, 1521313464, 456426236, 280400119, 2079162706, 3839732950, 2034441726⟩
def yaq13 : Ei := ⟨3879336492, 718841042, 3601836759, 1521313464, 3641483004, 280400119, 2079162706, 3839732950⟩
def yaq14 : Ei := ⟨1512566500, 3879336492, 718841042, 3601836759, 3201938926, 3641483004, 280400119, 2079162706⟩
def yaq15 : Ei := ⟨1859208239, 1512566500, 3879336492, 718841042, 3711321140, 3201938926, 3641483004, 280400119⟩
def yaq16 : Ei := ⟨2460224190, 1859208239, 1512566500, 3879336492, 2406164266, 3711321140, 3201938926, 3641483004⟩
def yaq17 : Ei := ⟨582794518, 2460224190, 1859208239, 1512566500, 1306131151, 2406164266, 3711321140, 3201938926⟩
def yaq18 : Ei := ⟨1948737071, 582794518, 2460224190, 1859208239, 414244523, 1306131151, 2406164266, 3711321140⟩
def yaq19 : Ei := ⟨3419436789, 1948737071, 582794518, 2460224190, 1458753925, 414244523, 1306131151, 2406164266⟩
def yaq20 : Ei := ⟨511675075, 3419436789, 1948737071, 582794518, 3387786041, 1458753925, 414244523, 1306131151⟩
def yaq21 : Ei := ⟨2773312316, 511675075, 3419436789, 1948737071, 4192642102, 3387786041, 1458753925, 414244523⟩
def yaq22 : Ei := ⟨3050815347, 2773312316, 511675075, 3419436789, 2506570364, 4192642102, 3387786041, 1458753925⟩
def yaq23 : Ei := ⟨2105753433, 3050815347, 2773312316, 511675075, 1272871717, 2506570364, 4192642102, 3387786041⟩
def yaq24 : Ei := ⟨1824870031, 2105753433, 3050815347, 2773312316, 740774816, 1272871717, 2506570364, 4192642102⟩
def yaq25 : Ei := ⟨4127185714, 1824870031, 2105753433, 3050815347, 1662383833, 740774816, 1272871717, 2506570364⟩
def yaq26 : Ei := ⟨2914657169, 4127185714, 1824870031, 2105753433, 1246097668, 1662383833, 740774816, 1272871717⟩
def yaq27 : Ei := ⟨2806903919, 2914657169, 4127185714, 1824870031, 2539930802, 1246097668, 1662383833, 740774816⟩
def yaq28 : Ei := ⟨2056461019, 2806903919, 2914657169, 4127185714, 3285744718, 2539930802, 1246097668, 1662383833⟩
def yaq29 : Ei := ⟨3460488732, 2056461019, 2806903919, 2914657169, 3499296431, 3285744718, 2539930802, 1246097668⟩
def yaq30 : Ei := ⟨1398114662, 3460488732, 2056461019, 2806903919, 1253906416, 3499296431, 3285744718, 2539930802⟩
def yaq31 : Ei := ⟨1365783570, 1398114662, 3460488732, 2056461019, 346041451, 1253906416, 3499296431, 3285744718⟩
def yaq32 : Ei := ⟨2497836842, 1365783570, 1398114662, 3460488732, 672900847, 346041451, 1253906416, 3499296431⟩
def yaq33 : Ei := ⟨796549063, 2497836842, 1365783570, 1398114662, 279648299, 672900847, 346041451, 1253906416⟩
def yaq34 : Ei := ⟨1836117396, 796549063, 2497836842, 1365783570, 3469021018, 279648299, 672900847, 346041451⟩
def yaq35 : Ei := ⟨3023331888, 1836117396, 796549063, 2497836842, 602051941, 3469021018, 279648299, 672900847⟩
def yaq36 : Ei := ⟨1208007589, 3023331888, 1836117396, 796549063, 3262236476, 602051941, 3469021018, 279648299⟩
def yaq37 : Ei := ⟨1027415724, 1208007589, 3023331888, 1836117396, 1925289715, 3262236476, 602051941, 3469021018⟩
def yaq38 : Ei := ⟨3581118782, 1027415724, 1208007589, 3023331888, 4166786423, 1925289715, 3262236476, 602051941⟩
def yaq39 : Ei := ⟨198622898, 3581118782, 1027415724, 1208007589, 810209968, 4166786423, 1925289715, 3262236476⟩
def yaq40 : Ei := ⟨2845552337, 198622898, 3581118782, 1027415724, 2793771650, 810209968, 4166786423, 1925289715⟩
def yaq41 : Ei := ⟨570978282, 2845552337, 198622898, 3581118782, 1663106581, 2793771650, 810209968, 4166786423⟩
def yaq42 : Ei := ⟨794286951, 570978282, 2845552337, 198622898, 46404226, 1663106581, 2793771650, 810209968⟩
def yaq43 : Ei := ⟨3537647604, 794286951, 570978282, 2845552337, 1679160809, 46404226, 1663106581, 2793771650⟩
def yaq44 : Ei := ⟨838452281, 3537647604, 794286951, 570978282, 3177884365, 1679160809, 46404226, 1663106581⟩
def yaq45 : Ei := ⟨3563286141, 838452281, 3537647604, 794286951, 937880811, 3177884365, 1679160809, 46404226⟩
def yaq46 : Ei := ⟨3209249745, 3563286141, 838452281, 3537647604, 2455251174, 937880811, 3177884365, 1679160809⟩
def yaq47 : Ei := ⟨1848791135, 3209249745, 3563286141, 838452281, 928273815, 2455251174, 937880811, 3177884365⟩
def yaq48 : Ei := ⟨1049537049, 1848791135, 3209249745, 3563286141, 3790508984, 928273815, 2455251174, 937880811⟩
def yaq49 : Ei := ⟨2018401687, 1049537049, 1848791135, 3209249745, 3907342258, 3790508984, 928273815, 2455251174⟩
def yaq50 : Ei := ⟨2286099374, 2018401687, 1049537049, 1848791135, 3181379178, 3907342258, 3790508984, 928273815⟩
def yaq51 : Ei := ⟨3755530967, 2286099374, 2018401687, 1049537049, 2729627845, 3181379178, 3907342258, 3790508984⟩
def yaq52 : Ei := ⟨3609895237, 3755530967, 2286099374, 2018401687, 4216019131, 2729627845, 3181379178, 3907342258⟩
def yaq53 : Ei := ⟨871524106, 3609895237, 3755530967, 2286099374, 4153746050, 4216019131, 2729627845, 3181379178⟩
def yaq54 : Ei := ⟨3593379923, 871524106, 3609895237, 3755530967, 155560476, 4153746050, 4216019131, 2729627845⟩
def yaq55 : Ei := ⟨1664677947, 3593379923, 871524106, 3609895237, 508746646, 155560476, 4153746050, 4216019131⟩
def yaq56 : Ei := ⟨1452158992, 1664677947, 3593379923, 871524106, 3213371125, 508746646, 155560476, 4153746050⟩
def yaq57 : Ei := ⟨2918611480, 1452158992, 1664677947, 3593379923, 3721967584, 3213371125, 508746646, 155560476⟩
def yaq58 : Ei := ⟨1458141002, 2918611480, 1452158992, 1664677947, 2735279107, 3721967584, 3213371125, 508746646⟩
def yaq59 : Ei := ⟨569309169, 1458141002, 2918611480, 1452158992, 2751707730, 2735279107, 3721967584, 3213371125⟩
def yaq60 : Ei := ⟨1788803361, 569309169, 1458141002, 2918611480, 1326529485, 2751707730, 2735279107, 3721967584⟩
def yaq61 : Ei := ⟨3129087795, 1788803361, 569309169, 1458141002, 490810069, 1326529485, 2751707730, 2735279107⟩
def yaq62 : Ei := ⟨3060355192, 3129087795, 1788803361, 569309169, 2204250459, 490810069, 1326529485, 2751707730⟩
def yaq63 : Ei := ⟨2268352696, 3060355192, 3129087795, 1788803361, 3816485355, 2204250459, 490810069, 1326529485⟩
def yaq64 : Ei := ⟨210954349, 2268352696, 3060355192, 3129087795, 1271251398, 3816485355, 2204250459, 490810069⟩
theorem yar0 : stepE yaq0 (kc 0) (lit yawl 0) = yaq1 := eqE_eq (by decide +kernel)
theorem yar1 : stepE yaq1 (kc 1) (lit yawl 1) = yaq2 := eqE_eq (by decide +kernel)
theorem yar2 : stepE yaq2 (kc 2) (lit yawl 2) = yaq3 := eqE_eq (by decide +kernel)
theorem yar3 : stepE yaq3 (kc 3) (lit yawl 3) = yaq4 := eqE_eq (by decide +kernel)
theorem yar4 : stepE yaq4 (kc 4) (lit yawl 4) = yaq5 := eqE_eq (by decide +kernel)
theorem yar5 : stepE yaq5 (kc 5) (lit yawl 5) = yaq6 := eqE_eq (by decide +kernel)
theorem yar6 : stepE yaq6 (kc 6) (lit yawl 6) = yaq7 := eqE_eq (by decide +kernel)
theorem yar7 : stepE yaq7 (kc 7) (lit yawl 7) = yaq8 := eqE_eq (by decide +kernel)
theorem yar8 : stepE yaq8 (kc 8) (lit yawl 8) = yaq9 := eqE_eq (by decide +kernel)
theorem yar9 : stepE yaq9 (kc 9) (lit yawl 9) = yaq10 := eqE_eq (by decide +kernel)
theorem yar10 : stepE yaq10 (kc 10) (lit yawl 10) = yaq11 := eqE_eq (by decide +kernel)
theorem yar11 : stepE yaq11 (kc 11) (lit yawl 11) = yaq12 := eqE_eq (by decide +kernel)
theorem yar12 : stepE yaq12 (kc 12) (lit yawl 12) = yaq13 := eqE_eq (by decide +kernel)
theorem yar13 : stepE yaq13 (kc 13) (lit yawl 13) = yaq14 := eqE_eq (by decide +kernel)
theorem yar14 : stepE yaq14 (kc 14) (lit yawl 14) = yaq15 := eqE_eq (by decide +kernel)
theorem yar15 : stepE yaq15 (kc 15) (lit yawl 15) = yaq16 := eqE_eq (by decide +kernel)
theorem yar16 : stepE yaq16 (kc 16) (lit yawl 16) = yaq17 := eqE_eq (by decide +kernel)
theorem yar17 : stepE yaq17 (kc 17) (lit yawl 17) = yaq18 := eqE_eq (by decide +kernel)
theorem yar18 : stepE yaq18 (kc 18) (lit yawl 18) = yaq19 := eqE_eq (by decide +kernel)
theorem yar19 : stepE yaq19 (kc 19) (lit yawl 19) = yaq20 := eqE_eq (by decide +kernel)
theorem yar20 : stepE yaq20 (kc 20) (lit yawl 20) = yaq21 := eqE_eq (by decide +kernel)
theorem yar21 : stepE yaq21 (kc 21) (lit yawl 21) = yaq22 := eqE_eq (by decide +kernel)
theorem yar22 : stepE yaq22 (kc 22) (lit yawl 22) = yaq23 := eqE_eq (by decide +kernel)
theorem yar23 : stepE yaq23 (kc 23) (lit yawl 23) = yaq24 := eqE_eq (by decide +kernel)
theorem yar24 : stepE yaq24 (kc 24) (lit yawl 24) = yaq25 := eqE_eq (by decide +kernel)
theorem yar25 : stepE yaq25 (kc 25) (lit yawl 25) = yaq26 := eqE_eq (by decide +kernel)
theorem yar26 : stepE yaq26 (kc 26) (lit yawl 26) = yaq27 := eqE_eq (by decide +kernel)
theorem yar27 : stepE yaq27 (kc 27) (lit yawl 27) = yaq28 := eqE_eq (by decide +kernel)
theorem yar28 : stepE yaq28 (kc 28) (lit yawl 28) = yaq29 := eqE_eq (by decide +kernel)
theorem yar29 : stepE yaq29 (kc 29) (lit yawl 29) = yaq30 := eqE_eq (by decide +kernel)
theorem yar30 : stepE yaq30 (kc 30) (lit yawl 30) = yaq31 := eqE_eq (by decide +kernel)
theorem yar31 : stepE yaq31 (kc 31) (lit yawl 31) = yaq32 := eqE_eq (by decide +kernel)
theorem yar32 : stepE yaq32 (kc 32) (lit yawl 32) = yaq33 := eqE_eq (by decide +kernel)
theorem yar33 : stepE yaq33 (kc 33) (lit yawl 33) = yaq34 := eqE_eq (by decide +kernel)
theorem yar34 : stepE yaq34 (kc 34) (lit yawl 34) = yaq35 := eqE_eq (by decide +kernel)
theorem yar35 : stepE yaq35 (kc 35) (lit yawl 35) = yaq36 := eqE_eq (by decide +kernel)
theorem yar36 : stepE yaq36 (kc 36) (lit yawl 36) = yaq37 := eqE_eq (by decide +kernel)
theorem yar37 : stepE yaq37 (kc 37) (lit yawl 37) = yaq38 := eqE_eq (by decide +kernel)
theorem yar38 : stepE yaq38 (kc 38) (lit yawl 38) = yaq39 := eqE_eq (by decide +kernel)
theorem yar39 : stepE yaq39 (kc 39) (lit yawl 39) = yaq40 := eqE_eq (by decide +kernel)
theorem yar40 : stepE yaq40 (kc 40) (lit yawl 40) = yaq41 := eqE_eq (by decide +kernel)
theorem yar41 : stepE yaq41 (kc 41) (lit yawl 41) = yaq42 := eqE_eq (by decide +kernel)
theorem yar42 : stepE yaq42 (kc 42) (lit yawl 42) = yaq43 := eqE_eq (by decide +kernel)
theorem yar43 : stepE yaq43 (kc 43) (lit yawl 43) = yaq44 := eqE_eq (by decide +kernel)
theorem yar44 : stepE yaq44 (kc 44) (lit yawl 44) = yaq45 := eqE_eq (by decide +kernel)
theorem yar45 : stepE yaq45 (kc 45) (lit yawl 45) = yaq46 := eqE_eq (by decide +kernel)
theorem yar46 : stepE yaq46 (kc 46) (lit yawl 46) = yaq47 := eqE_eq (by decide +kernel)
theorem yar47 : stepE yaq47 (kc 47) (lit yawl 47) = yaq48 := eqE_eq (by decide +kernel)
theorem yar48 : stepE yaq48 (kc 48) (lit yawl 48) = yaq49 := eqE_eq (by decide +kernel)
theorem yar49 : stepE yaq49 (kc 49) (lit yawl 49) = yaq50 := eqE_eq (by decide +kernel)
theorem yar50 : stepE yaq50 (kc 50) (lit yawl 50) = yaq51 := eqE_eq (by decide +kernel)
theorem yar51 : stepE yaq51 (kc 51) (lit yawl 51) = yaq52 := eqE_eq (by decide +kernel)
theorem yar52 : stepE yaq52 (kc 52) (lit yawl 52) = yaq53 := eqE_eq (by decide +kernel)
theorem yar53 : stepE yaq53 (kc 53) (lit yawl 53) = yaq54 := eqE_eq (by decide +kernel)
theorem yar54 : stepE yaq54 (kc 54) (lit yawl 54) = yaq55 := eqE_eq (by decide +kernel)
theorem yar55 : stepE yaq55 (kc 55) (lit yawl 55) = yaq56 := eqE_eq (by decide +kernel)
theorem yar56 : stepE yaq56 (kc 56) (lit yawl 56) = yaq57 := eqE_eq (by decide +kernel)
theorem yar57 : stepE yaq57 (kc 57) (lit yawl 57) = yaq58 := eqE_eq (by decide +kernel)
theorem yar58 : stepE yaq58 (kc 58) (lit yawl 58) = yaq59 := eqE_eq (by decide +kernel)
theorem yar59 : stepE yaq59 (kc 59) (lit yawl 59) = yaq60 := eqE_eq (by decide +kernel)
theorem yar60 : stepE yaq60 (kc 60) (lit yawl 60) = yaq61 := eqE_eq (by decide +kernel)
theorem yar61 : stepE yaq61 (kc 61) (lit yawl 61) = yaq62 := eqE_eq (by decide +kernel)
theorem yar62 : stepE yaq62 (kc 62) (lit yawl 62) = yaq63 := eqE_eq (by decide +kernel)
theorem yar63 : stepE yaq63 (kc 63) (lit yawl 63) = yaq64 := eqE_eq (by decide +kernel)
theorem yanx {n : Nat} {v a b : Ei} (h : runE v (lit yawl) n = a) (s : stepE a (kc n) (lit yawl n) = b) : runE v (lit yawl) (n + 1) = b := by rw [runE, h, s]
theorem yaall : runE yaq0 (lit yawl) 64 = yaq64 :=
  (yanx (yanx (yanx (yanx (yanx (yanx (yanx (yanx (yanx (yanx (yanx (yanx (yanx (yanx (yanx (yanx (yanx (yanx (yanx (yanx (yanx (yanx (yanx (yanx (yanx (yanx (yanx (yanx (yanx (yanx (yanx (yanx (yanx (yanx (yanx (yanx (yanx (yanx (yanx (yanx (yanx (yanx (yanx (yanx (yanx (yanx (yanx (yanx (yanx (yanx (yanx (yanx (yanx (yanx (yanx (yanx (yanx (yanx (yanx (yanx (yanx (yanx (yanx (yanx (show runE yaq0 (lit yawl) 0 = yaq0 from rfl) yar0) yar1) yar2) yar3) yar4) yar5) yar6) yar7) yar8) yar9) yar10) yar11) yar12) yar13) yar14) yar15) yar16) yar17) yar18) yar19) yar20) yar21) yar22) yar23) yar24) yar25) yar26) yar27) yar28) yar29) yar30) yar31) yar32) yar33) yar34) yar35) yar36) yar37) yar38) yar39) yar40) yar41) yar42) yar43) yar44) yar45) yar46) yar47) yar48) yar49) yar50) yar51) yar52) yar53) yar54) yar55) yar56) yar57) yar58) yar59) yar60) yar61) yar62) yar63)
theorem yatk : takeOf yaq0 (spreadOf (blk (headOf t96) 0)) = ⟨1989988052, 1117519677, 4074259434, 1607601261, 2631144517, 2122340983, 2732985094, 2032269294⟩ := by
  unfold takeOf
  rw [runE_ext yaq0 _ (lit yawl) 64 (fun j hj => yasp j hj), yaall]
  exact eqE_eq (by decide +kernel)
def ybwl : List Int := [2147483648, 0, 0, 0, 0, 0, 0, 0, 0, 0, 0, 0, 0, 0, 0, 512, 2147483648, 20971520, 2117632, 20616, 570427392, 575995924, 84449090, 2684354592, 1518862336, 6067200, 1496221, 4202700544, 3543279056, 291985753, 4142317530, 3003913545, 145928272, 2642168871, 216179603, 2296832490, 2771075893, 1738633033, 3610378607, 1324035729, 1572820453, 2397971253, 3803995842, 2822718356, 1168996599, 921948365, 3650881000, 2958106055, 1773959876, 3172022107, 3820646885, 991993842, 419360279, 3797604839, 322392134, 85264541, 1326255876, 640108622, 822159570, 3328750644, 1107837388, 1657999800, 3852183409, 2242356356]
theorem ybw0 : ∀ j : Fin 16, lit ybwl j.val = blk (lastOf t96) 0 j.val := by decide +kernel
theorem ybw1 : ∀ t : Fin 48, lit ybwl (16 + t.val) = nxt (lit ybwl) (16 + t.val) := by decide +kernel
theorem ybsp (j : Nat) (hj : j < 64) : spreadOf (blk (lastOf t96) 0) j = lit ybwl j :=
  spread_is _ (lit ybwl) (fun j hj => ybw0 ⟨j, hj⟩) (fun t h1 h2 => by have := ybw1 ⟨t - 16, by omega⟩; rwa [show 16 + (t - 16) = t by omega] at this) 48 (Nat.le_refl _) j hj
def ybq0 : Ei := ⟨1989988052, 1117519677, 4074259434, 1607601261, 2631144517, 2122340983, 2732985094, 2032269294⟩
def ybq1 : Ei := ⟨4193374575, 1989988052, 1117519677, 4074259434, 3471521623, 2631144517, 2122340983, 2732985094⟩
def ybq2 : Ei := ⟨3054987783, 4193374575, 1989988052, 1117519677, 2215627330, 3471521623, 2631144517, 2122340983⟩
def ybq3 : Ei := ⟨3983035208, 3054987783, 4193374575, 1989988052, 1499335516, 2215627330, 3471521623, 2631144517⟩
def ybq4 : Ei := ⟨2160513377, 3983035208, 3054987783, 4193374575, 969013953, 1499335516, 2215627330, 3471521623⟩
def ybq5 : Ei := ⟨4136362730, 2160513377, 3983035208, 3054987783, 1539257515, 969013953, 1499335516, 2215627330⟩
def ybq6 : Ei := ⟨1235984712, 4136362730, 2160513377, 3983035208, 2507759784, 1539257515, 969013953, 1499335516⟩
def ybq7 : Ei := ⟨2827472222, 1235984712, 4136362730, 2160513377, 515289877, 2507759784, 1539257515, 969013953⟩
def ybq8 : Ei := ⟨1879421930, 2827472222, 1235984712, 4136362730, 677303862, 515289877, 2507759784, 1539257515⟩
def ybq9 : Ei := ⟨2150818774, 1879421930, 2827472222, 1235984712, 4170834015, 677303862, 515289877, 2507759784⟩
def ybq10 : Ei := ⟨610840896, 2150818774, 1879421930, 2827472222, 1490324296, 4170834015, 677303862, 515289877⟩
def ybq11 : Ei := ⟨531610919, 610840896, 2150818774, 1879421930, 2251867967, 1490324296, 4170834015, 677303862⟩
def ybq12 : Ei := ⟨2413490840, 531610919, 610840896, 2150818774, 1804494578, 2251867967, 1490324296, 4170834015⟩
def ybq13 : Ei := ⟨996446141, 2413490840, 531610919, 610840896, 3467911749, 1804494578, 2251867967, 1490324296⟩
def ybq14 : Ei := ⟨3939440013, 996446141, 2413490840, 531610919, 1312488170, 3467911749, 1804494578, 2251867967⟩
def ybq15 : Ei := ⟨288262678, 3939440013, 996446141, 2413490840, 2592410352, 1312488170, 3467911749, 1804494578⟩
def ybq16 : Ei := ⟨77120868, 288262678, 3939440013, 996446141, 3929126058, 2592410352, 1312488170, 3467911749⟩
def ybq17 : Ei := ⟨825014024, 77120868, 288262678, 3939440013, 586103860, 3929126058, 2592410352, 1312488170⟩
def ybq18 : Ei := ⟨854556605, 825014024, 77120868, 288262678, 96176611, 586103860, 3929126058, 2592410352⟩
def ybq19 : Ei := ⟨1075745085, 854556605, 825014024, 77120868, 334718920, 96176611, 586103860, 3929126058⟩
def ybq20 : Ei := ⟨617882084, 1075745085, 854556605, 825014024, 1435819600, 334718920, 96176611, 586103860⟩
def ybq21 : Ei := ⟨1027174998, 617882084, 1075745085, 854556605, 4143200598, 1435819600, 334718920, 96176611⟩
def ybq22 : Ei := ⟨4018745776, 1027174998, 617882084, 1075745085, 103125583, 4143200598, 1435819600, 334718920⟩
def ybq23 : Ei := ⟨4107247683, 4018745776, 1027174998, 617882084, 1957759985, 103125583, 4143200598, 1435819600⟩
def ybq24 : Ei := ⟨2510534229, 4107247683, 4018745776, 1027174998, 4215367209, 1957759985, 103125583, 4143200598⟩
def ybq25 : Ei := ⟨1860853127, 2510534229, 4107247683, 4018745776, 1568344238, 4215367209, 1957759985, 103125583⟩
def ybq26 : Ei := ⟨3448944241, 1860853127, 2510534229, 4107247683, 691549778, 1568344238, 4215367209, 1957759985⟩
def ybq27 : Ei := ⟨1997861856, 3448944241, 1860853127, 2510534229, 336517007, 691549778, 1568344238, 4215367209⟩
def ybq28 : Ei := ⟨168402308, 1997861856, 3448944241, 1860853127, 1594971765, 336517007, 691549778, 1568344238⟩
def ybq29 : Ei := ⟨3608620345, 168402308, 1997861856, 3448944241, 773630939, 1594971765, 336517007, 691549778⟩
def ybq30 : Ei := ⟨3753322047, 3608620345, 168402308, 1997861856, 359959141, 773630939, 1594971765, 336517007⟩
def ybq31 : Ei := ⟨3156942786, 3753322047, 3608620345, 168402308, 966597405, 359959141, 773630939, 1594971765⟩
def ybq32 : Ei := ⟨4089406674, 3156942786, 3753322047, 3608620345, 556902083, 966597405, 359959141, 773630939⟩
def ybq33 : Ei := ⟨1203316711, 4089406674, 3156942786, 3753322047, 3072728909, 556902083, 966597405, 359959141⟩
def ybq34 : Ei := ⟨1496443242, 1203316711, 4089406674, 3156942786, 920780473, 3072728909, 556902083, 966597405⟩
def ybq35 : Ei := ⟨2085802728, 1496443242, 1203316711, 4089406674, 3389616663, 920780473, 3072728909, 556902083⟩
def ybq36 : Ei := ⟨1848598499, 2085802728, 1496443242, 1203316711, 1100998894, 3389616663, 920780473, 3072728909⟩
def ybq37 : Ei := ⟨3106049679, 1848598499, 2085802728, 1496443242, 3937972050, 1100998894, 3389616663, 920780473⟩
def ybq38 : Ei := ⟨3747201311, 3106049679, 1848598499, 2085802728, 2891544395, 3937972050, 1100998894, 3389616663⟩
def ybq39 : Ei := ⟨2406808898, 3747201311, 3106049679, 1848598499, 1953434279, 2891544395, 3937972050, 1100998894⟩
def ybq40 : Ei := ⟨171862433, 2406808898, 3747201311, 3106049679, 1052814763, 1953434279, 2891544395, 3937972050⟩
def ybq41 : Ei := ⟨2667155629, 171862433, 2406808898, 3747201311, 3531466374, 1052814763, 1953434279, 2891544395⟩
def ybq42 : Ei := ⟨2719139834, 2667155629, 171862433, 2406808898, 3999230428, 3531466374, 1052814763, 1953434279⟩
def ybq43 : Ei := ⟨3127787334, 2719139834, 2667155629, 171862433, 3814338303, 3999230428, 3531466374, 1052814763⟩
def ybq44 : Ei := ⟨3575678468, 3127787334, 2719139834, 2667155629, 949031278, 3814338303, 3999230428, 3531466374⟩
def ybq45 : Ei := ⟨3882071334, 3575678468, 3127787334, 2719139834, 1287922364, 949031278, 3814338303, 3999230428⟩
def ybq46 : Ei := ⟨30418995, 3882071334, 3575678468, 3127787334, 239397726, 1287922364, 949031278, 3814338303⟩
def ybq47 : Ei := ⟨2786360719, 30418995, 3882071334, 3575678468, 3654635557, 239397726, 1287922364, 949031278⟩
def ybq48 : Ei := ⟨2053373382, 2786360719, 30418995, 3882071334, 1411790155, 3654635557, 239397726, 1287922364⟩
def ybq49 : Ei := ⟨3812074866, 2053373382, 2786360719, 30418995, 2834212746, 1411790155, 3654635557, 239397726⟩
def ybq50 : Ei := ⟨393322305, 3812074866, 2053373382, 2786360719, 3912928833, 2834212746, 1411790155, 3654635557⟩
def ybq51 : Ei := ⟨3775099711, 393322305, 3812074866, 2053373382, 2583321483, 3912928833, 2834212746, 1411790155⟩
def ybq52 : Ei := ⟨1595291295, 3775099711, 393322305, 3812074866, 2312327586, 2583321483, 3912928833, 2834212746⟩
def ybq53 : Ei := ⟨3487262728, 1595291295, 3775099711, 393322305, 538627569, 2312327586, 2583321483, 3912928833⟩
def ybq54 : Ei := ⟨424079647, 3487262728, 1595291295, 3775099711, 1133811291, 538627569, 2312327586, 2583321483⟩
def ybq55 : Ei := ⟨2987574191, 424079647, 3487262728, 1595291295, 3729964218, 1133811291, 538627569, 2312327586⟩
def ybq56 : Ei := ⟨83295515, 2987574191, 424079647, 3487262728, 230863862, 3729964218, 1133811291, 538627569⟩
def ybq57 : Ei := ⟨2082882622, 83295515, 2987574191, 424079647, 1234748997, 230863862, 3729964218, 1133811291⟩
def ybq58 : Ei := ⟨4029791943, 2082882622, 83295515, 2987574191, 2908184794, 1234748997, 230863862, 3729964218⟩
def ybq59 : Ei := ⟨3103635800, 4029791943, 2082882622, 83295515, 705728236, 2908184794, 1234748997, 230863862⟩
def ybq60 : Ei := ⟨977971440, 3103635800, 4029791943, 2082882622, 887889493, 705728236, 2908184794, 1234748997⟩
def ybq61 : Ei := ⟨3390566281, 977971440, 3103635800, 4029791943, 705938039, 887889493, 705728236, 2908184794⟩
def ybq62 : Ei := ⟨2080136075, 3390566281, 977971440, 3103635800, 1616438277, 705938039, 887889493, 705728236⟩
def ybq63 : Ei := ⟨719581021, 2080136075, 3390566281, 977971440, 1974982717, 1616438277, 705938039, 887889493⟩
def ybq64 : Ei := ⟨1066351903, 719581021, 2080136075, 3390566281, 1324686883, 1974982717, 1616438277, 705938039⟩
theorem ybr0 : stepE ybq0 (kc 0) (lit ybwl 0) = ybq1 := eqE_eq (by decide +kernel)
theorem ybr1 : stepE ybq1 (kc 1) (lit ybwl 1) = ybq2 := eqE_eq (by decide +kernel)
theorem ybr2 : stepE ybq2 (kc 2) (lit ybwl 2) = ybq3 := eqE_eq (by decide +kernel)
theorem ybr3 : stepE ybq3 (kc 3) (lit ybwl 3) = ybq4 := eqE_eq (by decide +kernel)
theorem ybr4 : stepE ybq4 (kc 4) (lit ybwl 4) = ybq5 := eqE_eq (by decide +kernel)
theorem ybr5 : stepE ybq5 (kc 5) (lit ybwl 5) = ybq6 := eqE_eq (by decide +kernel)
theorem ybr6 : stepE ybq6 (kc 6) (lit ybwl 6) = ybq7 := eqE_eq (by decide +kernel)
theorem ybr7 : stepE ybq7 (kc 7) (lit ybwl 7) = ybq8 := eqE_eq (by decide +kernel)
theorem ybr8 : stepE ybq8 (kc 8) (lit ybwl 8) = ybq9 := eqE_eq (by decide +kernel)
theorem ybr9 : stepE ybq9 (kc 9) (lit ybwl 9) = ybq10 := eqE_eq (by decide +kernel)
theorem ybr10 : stepE ybq10 (kc 10) (lit ybwl 10) = ybq11 := eqE_eq (by decide +kernel)
theorem ybr11 : stepE ybq11 (kc 11) (lit ybwl 11) = ybq12 := eqE_eq (by decide +kernel)
theorem ybr12 : stepE ybq12 (kc 12) (lit ybwl 12) = ybq13 := eqE_eq (by decide +kernel)
theorem ybr13 : stepE ybq13 (kc 13) (lit ybwl 13) = ybq14 := eqE_eq (by decide +kernel)
theorem ybr14 : stepE ybq14 (kc 14) (lit ybwl 14) = ybq15 := eqE_eq (by decide +kernel)
theorem ybr15 : stepE ybq15 (kc 15) (lit ybwl 15) = ybq16 := eqE_eq (by decide +kernel)
theorem ybr16 : stepE ybq16 (kc 16) (lit ybwl 16) = ybq17 := eqE_eq (by decide +kernel)
theorem ybr17 : stepE ybq17 (kc 17) (lit ybwl 17) = ybq18 := eqE_eq (by decide +kernel)
theorem ybr18 : stepE ybq18 (kc 18) (lit ybwl 18) = ybq19 := eqE_eq (by decide +kernel)
theorem ybr19 : stepE ybq19 (kc 19) (lit ybwl 19) = ybq20 := eqE_eq (by decide +kernel)
theorem ybr20 : stepE ybq20 (kc 20) (lit ybwl 20) = ybq21 := eqE_eq (by decide +kernel)
theorem ybr21 : stepE ybq21 (kc 21) (lit ybwl 21) = ybq22 := eqE_eq (by decide +kernel)
theorem ybr22 : stepE ybq22 (kc 22) (lit ybwl 22) = ybq23 := eqE_eq (by decide +kernel)
theorem ybr23 : stepE ybq23 (kc 23) (lit ybwl 23) = ybq24 := eqE_eq (by decide +kernel)
theorem ybr24 : stepE ybq24 (kc 24) (lit ybwl 24) = ybq25 := eqE_eq (by decide +kernel)
theorem ybr25 : stepE ybq25 (kc 25) (lit ybwl 25) = ybq26 := eqE_eq (by decide +kernel)
theorem ybr26 : stepE ybq26 (kc 26) (lit ybwl 26) = ybq27 := eqE_eq (by decide +kernel)
theorem ybr27 : stepE ybq27 (kc 27) (lit ybwl 27) = ybq28 := eqE_eq (by decide +kernel)
theorem ybr28 : stepE ybq28 (kc 28) (lit ybwl 28) = ybq29 := eqE_eq (by decide +kernel)
theorem ybr29 : stepE ybq29 (kc 29) (lit ybwl 29) = ybq30 := eqE_eq (by decide +kernel)
theorem ybr30 : stepE ybq30 (kc 30) (lit ybwl 30) = ybq31 := eqE_eq (by decide +kernel)
theorem ybr31 : stepE ybq31 (kc 31) (lit ybwl 31) = ybq32 := eqE_eq (by decide +kernel)
theorem ybr32 : stepE ybq32 (kc 32) (lit ybwl 32) = ybq33 := eqE_eq (by decide +kernel)
theorem ybr33 : stepE ybq33 (kc 33) (lit ybwl 33) = ybq34 := eqE_eq (by decide +kernel)
theorem ybr34 : stepE ybq34 (kc 34) (lit ybwl 34) = ybq35 := eqE_eq (by decide +kernel)
theorem ybr35 : stepE ybq35 (kc 35) (lit ybwl 35) = ybq36 := eqE_eq (by decide +kernel)
theorem ybr36 : stepE ybq36 (kc 36) (lit ybwl 36) = ybq37 := eqE_eq (by decide +kernel)
theorem ybr37 : stepE ybq37 (kc 37) (lit ybwl 37) = ybq38 := eqE_eq (by decide +kernel)
theorem ybr38 : stepE ybq38 (kc 38) (lit ybwl 38) = ybq39 := eqE_eq (by decide +kernel)
theorem ybr39 : stepE ybq39 (kc 39) (lit ybwl 39) = ybq40 := eqE_eq (by decide +kernel)
theorem ybr40 : stepE ybq40 (kc 40) (lit ybwl 40) = ybq41 := eqE_eq (by decide +kernel)
theorem ybr41 : stepE ybq41 (kc 41) (lit ybwl 41) = ybq42 := eqE_eq (by decide +kernel)
theorem ybr42 : stepE ybq42 (kc 42) (lit ybwl 42) = ybq43 := eqE_eq (by decide +kernel)
theorem ybr43 : stepE ybq43 (kc 43) (lit ybwl 43) = ybq44 := eqE_eq (by decide +kernel)
theorem ybr44 : stepE ybq44 (kc 44) (lit ybwl 44) = ybq45 := eqE_eq (by decide +kernel)
theorem ybr45 : stepE ybq45 (kc 45) (lit ybwl 45) = ybq46 := eqE_eq (by decide +kernel)
theorem ybr46 : stepE ybq46 (kc 46) (lit ybwl 46) = ybq47 := eqE_eq (by decide +kernel)
theorem ybr47 : stepE ybq47 (kc 47) (lit ybwl 47) = ybq48 := eqE_eq (by decide +kernel)
theorem ybr48 : stepE ybq48 (kc 48) (lit ybwl 48) = ybq49 := eqE_eq (by decide +kernel)
theorem ybr49 : stepE ybq49 (kc 49) (lit ybwl 49) = ybq50 := eqE_eq (by decide +kernel)
theorem ybr50 : stepE ybq50 (kc 50) (lit ybwl 50) = ybq51 := eqE_eq (by decide +kernel)
theorem ybr51 : stepE ybq51 (kc 51) (lit ybwl 51) = ybq52 := eqE_eq (by decide +kernel)
theorem ybr52 : stepE ybq52 (kc 52) (lit ybwl 52) = ybq53 := eqE_eq (by decide +kernel)
theorem ybr53 : stepE ybq53 (kc 53) (lit ybwl 53) = ybq54 := eqE_eq (by decide +kernel)
theorem ybr54 : stepE ybq54 (kc 54) (lit ybwl 54) = ybq55 := eqE_eq (by decide +kernel)
theorem ybr55 : stepE ybq55 (kc 55) (lit ybwl 55) = ybq56 := eqE_eq (by decide +kernel)
theorem ybr56 : stepE ybq56 (kc 56) (lit ybwl 56) = ybq57 := eqE_eq (by decide +kernel)
theorem ybr57 : stepE ybq57 (kc 57) (lit ybwl 57) = ybq58 := eqE_eq (by decide +kernel)
theorem ybr58 : stepE ybq58 (kc 58) (lit ybwl 58) = ybq59 := eqE_eq (by decide +kernel)
theorem ybr59 : stepE ybq59 (kc 59) (lit ybwl 59) = ybq60 := eqE_eq (by decide +kernel)
theorem ybr60 : stepE ybq60 (kc 60) (lit ybwl 60) = ybq61 := eqE_eq (by decide +kernel)
theorem ybr61 : stepE ybq61 (kc 61) (lit ybwl 61) = ybq62 := eqE_eq (by decide +kernel)
theorem ybr62 : stepE ybq62 (kc 62) (lit ybwl 62) = ybq63 := eqE_eq (by decide +kernel)
theorem ybr63 : stepE ybq63 (kc 63) (lit ybwl 63) = ybq64 := eqE_eq (by decide +kernel)
theorem ybnx {n : Nat} {v a b : Ei} (h : runE v (lit ybwl) n = a) (s : stepE a (kc n) (lit ybwl n) = b) : runE v (lit ybwl) (n + 1) = b := by rw [runE, h, s]
theorem yball : runE ybq0 (lit ybwl) 64 = ybq64 :=
  (ybnx (ybnx (ybnx (ybnx (ybnx (ybnx (ybnx (ybnx (ybnx (ybnx (ybnx (ybnx (ybnx (ybnx (ybnx (ybnx (ybnx (ybnx (ybnx (ybnx (ybnx (ybnx (ybnx (ybnx (ybnx (ybnx (ybnx (ybnx (ybnx (ybnx (ybnx (ybnx (ybnx (ybnx (ybnx (ybnx (ybnx (ybnx (ybnx (ybnx (ybnx (ybnx (ybnx (ybnx (ybnx (ybnx (ybnx (ybnx (ybnx (ybnx (ybnx (ybnx (ybnx (ybnx (ybnx (ybnx (ybnx (ybnx (ybnx (ybnx (ybnx (ybnx (ybnx (ybnx (show runE ybq0 (lit ybwl) 0 = ybq0 from rfl) ybr0) ybr1) ybr2) ybr3) ybr4) ybr5) ybr6) ybr7) ybr8) ybr9) ybr10) ybr11) ybr12) ybr13) ybr14) ybr15) ybr16) ybr17) ybr18) ybr19) ybr20) ybr21) ybr22) ybr23) ybr24) ybr25) ybr26) ybr27) ybr28) ybr29) ybr30) ybr31) ybr32) ybr33) ybr34) ybr35) ybr36) ybr37) ybr38) ybr39) ybr40) ybr41) ybr42) ybr43) ybr44) ybr45) ybr46) ybr47) ybr48) ybr49) ybr50) ybr51) ybr52) ybr53) ybr54) ybr55) ybr56) ybr57) ybr58) ybr59) ybr60) ybr61) ybr62) ybr63)
theorem ybtk : takeOf ybq0 (spreadOf (blk (lastOf t96) 0)) = ⟨3056339955, 1837100698, 1859428213, 703200246, 3955831400, 4097323700, 54456075, 2738207333⟩ := by
  unfold takeOf
  rw [runE_ext ybq0 _ (lit ybwl) 64 (fun j hj => ybsp j hj), yball]
  exact eqE_eq (by decide +kernel)
theorem t96_bk : allBk t96 = [blk (headOf t96) 0, blk (lastOf t96) 0] := by
  unfold allBk
  rw [show wholeN t96 = 1 from rfl, show (lastOf t96).size / 64 = 1 by decide +kernel]
  rfl
theorem t96_sum : sumOf t96 = ⟨#[182, 44, 11, 243, 109, 127, 238, 154, 110, 212, 159, 117, 41, 233, 251, 246, 235, 201, 50, 104, 244, 56, 50, 180, 3, 62, 239, 11, 163, 53, 186, 101]⟩ := by
  unfold sumOf
  rw [t96_bk]
  show textOf (takeOf (takeOf first8 (spreadOf (blk (headOf t96) 0))) (spreadOf (blk (lastOf t96) 0))) = _
  rw [show first8 = yaq0 from rfl, yatk, show (⟨1989988052, 1117519677, 4074259434, 1607601261, 2631144517, 2122340983, 2732985094, 2032269294⟩ : Ei) = ybq0 from rfl, ybtk]
  decide +kernel
end Go.Proofs.YtmemfdpfbeijeabDoor
